/- The reference's Decode of an Open. -/
import Derived.Test.YtkkfnpacejdlnaaOpnREnc
import Derived.Test.YtkkfnpacejdlnaaOpnMath2
import Derived.Test.YtkkfnpacejdlnaaOctMid
import Derived.Test.YtkkfnpacejdlnaaOctRd
import Derived.Deep.RegionHeld3
import Derived.BigQuiet
import Derived.IntWalk
namespace Go.Proofs.Ytkkfnpacejdlnaa.Opn
open Go.RowKit Mem Oct Att

theorem rno_any (s : Int) (w : World) : Calls Try.prog 37 #[.int .i64 s] w (Tells (.tuple #[.agg #[.int .u32 0, .int .i64 0, .int .u32 0, .bool false], .agg #[.int .i64 2, .int .i64 s, .slice none 0 0]]) w) := by
  have HB := Go.Lib.hid (((Below.refl w.heap.size w).alloc (Nat.le_refl _) (.cells #[.int .u32 0, .int .i64 0, .int .u32 0, .bool false] 24)).alloc (by simp) (.cells #[.int .i64 2, .int .i64 s, .slice none 0 0] 32))
  go_enter Try.func37, Try.ntmps37
  go_wp2
  (try simp only [Exit.inBlock, Exit.then])
  refine bodyPost_ret (v := .tuple #[.agg #[.int .u32 0, .int .i64 0, .int .u32 0, .bool false], .agg #[.int .i64 2, .int .i64 s, .slice none 0 0]]) (by simp [results, Try.results37, go_sem]) rfl ?_
  exact ⟨rfl, HB.out⟩
/-- What Decode gives. -/
def DecF9 (b : List Nat) (w : World) (e : Ending) (w' : World) : Prop :=
  ∃ vn, e = .returned (.tuple #[opn (outO (decO b)).1, vn]) ∧ Note w' vn (outO (decO b)).2 ∧ Below w.heap.size w w'
/-- The results' boxes. -/
structure Rd0 (w W : World) : Prop where
  r4 : Box4 W w.heap.size 24 (.int .u32 0) (.int .i64 0) (.int .u32 0) (.bool false)
  r3 : Box3 W (w.heap.size + 1) 32 (.int .i64 0) (.int .i64 0) (.slice none 0 0)
  low : Below w.heap.size w W
theorem Rd0.below {w W W2 : World} (h : Rd0 w W) (hb : Below W.heap.size W W2) : Rd0 w W2 := ⟨h.r4.keep hb, h.r3.keep hb, h.low.trans (hb.mono h.low.size)⟩
theorem rd0_start (w : World) : Rd0 w ((w.alloc (.cells #[.int .u32 0, .int .i64 0, .int .u32 0, .bool false] 24)).alloc (.cells #[.int .i64 0, .int .i64 0, .slice none 0 0] 32)) := by
  have h1 := Box4.new w 24 (.int .u32 0) (.int .i64 0) (.int .u32 0) (.bool false)
  have b1 : Below w.heap.size w (w.alloc (.cells #[.int .u32 0, .int .i64 0, .int .u32 0, .bool false] 24)) := (Below.refl _ w).alloc (Nat.le_refl _) _
  have e1 : (w.alloc (.cells #[.int .u32 0, .int .i64 0, .int .u32 0, .bool false] 24)).heap.size = w.heap.size + 1 := by simp
  have h2 := Box3.new (w.alloc (.cells #[.int .u32 0, .int .i64 0, .int .u32 0, .bool false] 24)) 32 (.int .i64 0) (.int .i64 0) (.slice none 0 0)
  rw [e1] at h2
  exact ⟨h1.keep ((Below.refl _ _).alloc (Nat.le_refl _) _), h2, b1.alloc b1.size _⟩
/-- The world behind the stores of both results. -/
def ends (w W : World) (x y z u a b c : Value) : World := three (four W w.heap.size x y z u) (w.heap.size + 1) a b c
theorem Rd0.mid {w W : World} (h : Rd0 w W) (x y z u : Value) : Box3 (four W w.heap.size x y z u) (w.heap.size + 1) 32 (.int .i64 0) (.int .i64 0) (.slice none 0 0) := by
  have ho := four_off W w.heap.size x y z u
  exact ⟨(ho.1 _ (by omega)).trans h.r3.blk⟩
theorem Rd0.fin {w W : World} (h : Rd0 w W) (x y z u a b c : Value) : Box4 (ends w W x y z u a b c) w.heap.size 24 x y z u ∧ Box3 (ends w W x y z u a b c) (w.heap.size + 1) 32 a b c ∧ Below w.heap.size w (ends w W x y z u a b c) := by
  have ho := three_off (four W w.heap.size x y z u) (w.heap.size + 1) a b c
  exact ⟨⟨(ho.1 _ (by omega)).trans (h.r4.laid x y z u).blk⟩, (h.mid x y z u).laid a b c, three_low (four_low h.low _ (Nat.le_refl _) x y z u) _ (by omega) a b c⟩
theorem Rd0.bad {w W : World} (h : Rd0 w W) {b : List Nat} {s : Nat} {si : Int} (hd : decO b = .inl s) (hs : s ≠ 1) (hi : si = (s : Int)) (hl : (s : Int) ≤ 255) :
    DecF9 b w (.returned (.tuple #[.agg #[.int .u32 0, .int .i64 0, .int .u32 0, .bool false], .agg #[.int .i64 2, .int .i64 si, .slice none 0 0]])) (ends w W (.int .u32 0) (.int .i64 0) (.int .u32 0) (.bool false) (.int .i64 2) (.int .i64 si) (.slice none 0 0)) := by
  subst hi
  unfold DecF9
  rw [hd]
  refine ⟨_, rfl, ⟨show (Lit.int .i64 2).wf = true by decide, ?_, .slice none 0 0, rfl, ?_⟩, (h.fin _ _ _ _ _ _ _).2.2⟩
  · show (Lit.int .i64 (s : Int)).wf = true
    simp [Lit.wf, IntKind.min, IntKind.max, IntKind.signed, IntKind.bits]; omega
  · show U8s _ _ (if s = 1 then [0, 4] else [])
    rw [if_neg hs]
    exact U8s.nil _
/-- .. and the Open's own box. -/
structure RdO (w : World) (o : Op) (W : World) : Prop where
  rd : Rd0 w W
  bo : Box4 W (w.heap.size + 1 + 1) 24 (.int .u32 o.an) (.int .i64 o.hold) (.int .u32 o.ri) (.bool o.four)
theorem RdO.below {w W W2 : World} {o : Op} (h : RdO w o W) (hb : Below W.heap.size W W2) : RdO w o W2 := ⟨h.rd.below hb, h.bo.keep hb⟩
theorem RdO.set {w W : World} {o : Op} (h : RdO w o W) (n : Nat) : RdO w ⟨n, o.hold, o.ri, true⟩ ((W.setCell ⟨w.heap.size + 1 + 1, 0, none⟩ (.int .u32 n)).setCell ⟨w.heap.size + 1 + 1, 3, none⟩ (.bool true)) :=
  ⟨⟨(h.rd.r4.far (by omega) _).far (by omega) _, (h.rd.r3.far (by omega) _).far (by omega) _, (h.rd.low.setCell (p := ⟨w.heap.size + 1 + 1, 0, none⟩) (by show w.heap.size ≤ w.heap.size + 1 + 1; omega) _).setCell (p := ⟨w.heap.size + 1 + 1, 3, none⟩) (by show w.heap.size ≤ w.heap.size + 1 + 1; omega) _⟩, (h.bo.set0 _).set3 _⟩
theorem rdo_start (w : World) (o : Op) : RdO w o (((w.alloc (.cells #[.int .u32 0, .int .i64 0, .int .u32 0, .bool false] 24)).alloc (.cells #[.int .i64 0, .int .i64 0, .slice none 0 0] 32)).alloc (.cells #[.int .u32 o.an, .int .i64 o.hold, .int .u32 o.ri, .bool o.four] 24)).drew := by
  have h := rd0_start w
  have e : ((w.alloc (.cells #[.int .u32 0, .int .i64 0, .int .u32 0, .bool false] 24)).alloc (.cells #[.int .i64 0, .int .i64 0, .slice none 0 0] 32)).heap.size = w.heap.size + 1 + 1 := by simp
  generalize ((w.alloc (.cells #[.int .u32 0, .int .i64 0, .int .u32 0, .bool false] 24)).alloc (.cells #[.int .i64 0, .int .i64 0, .slice none 0 0] 32)) = W at h e ⊢
  have h2 := Box4.new W 24 (.int .u32 o.an) (.int .i64 o.hold) (.int .u32 o.ri) (.bool o.four)
  rw [e] at h2
  exact ⟨h.below ((Below.refl _ _).alloc (Nat.le_refl _) _).drew, h2.keep (Below.refl _ _).drew⟩
/-- The reference's Num leaves the world as it is. -/
theorem numE (v : Value) (l : List Nat) (w : World) (hv : U8s w v l) (hl : l.length ≤ 4) : Calls Try.prog 38 #[v] w (fun e w' => e = .returned (.int .u32 (val l)) ∧ w' = w) := by
  obtain ⟨A, c, rfl, hlc, hc⟩ := hv.form
  have HU := Go.Lib.hid hv
  clear hv
  go_enter Try.func38, Try.ntmps38
  go_wp2
  go_loopw [3, 4] (fun v3 v4 wx => ∃ j : Nat, j ≤ l.length ∧ v4 = .int .i64 j ∧ v3 = .int .u32 (val (l.take j)) ∧ wx = w) (fun _ v4 _ => l.length - (intOf v4).toNat)
  case atStart => exact ⟨0, Nat.zero_le _, rfl, rfl, rfl⟩
  case round =>
    obtain ⟨j, hj, rfl, rfl, rfl⟩ := hrel
    by_cases hlt : j < l.length
    · obtain ⟨b, off, x, rfl, hbl, hx, hx2, hc⟩ := (HU.out).at_ hlt
      have z0 : (0 : Int) ≤ (j : Int) := by omega
      have z1 : (j : Int) < (l.length : Int) := by omega
      have hv := val_lt j HU.out.2
      have hv2 := Nat.lt_of_lt_of_le hv (pow_le (show j ≤ 3 by omega))
      have HV := Go.Lib.hid (val_take hx)
      clear hv hx
      generalize val (l.take j) = V at hv2 HV ⊢
      go_wp2
      go_roundw
      case rel => exact ⟨j + 1, hlt, by go_num, by rw [HV.out]; go_num, trivial⟩
      case measure => simp [intOf]; omega
    · obtain rfl : j = l.length := by omega
      go_wp2
      go_ret
      rw [List.take_length]
      exact ⟨rfl, rfl⟩
set_option maxRecDepth 100000 in
set_option maxHeartbeats 8000000 in
theorem decode_r0 (v : Value) (b : List Nat) (w : World) (hv : U8s w v b) (hl : b.length < 10) : Calls Try.prog 15 #[v] w (DecF9 b w) := by
  have D0 := Go.Lib.hid (rd0_start w)
  have CN := Go.Lib.hid rno_any
  obtain ⟨Ab, cb, rfl, hlc, hcc⟩ := hv.form
  have HD := Go.Lib.hid (show decO b = .inl 0 from if_pos hl)
  have z1 : (b.length : Int) < 10 := by omega
  clear hv hl hlc hcc
  go_enter Try.func15, Try.ntmps15
  go_wp2_with (go_at_call 37; first | (refine (CN.out _ _).mono ?_; rintro e z ⟨rfl, hb⟩; have SZ := Go.Lib.hid (D0.out.below hb); clear hb; obtain ⟨f0, f1, f2, f3⟩ := SZ.out.r4.cells; have fr4 := SZ.out.r4.free; obtain ⟨m0, m1, m2⟩ := (SZ.out.mid (.int .u32 0) (.int .i64 0) (.int .u32 0) (.bool false)).cells; have fr3 := (SZ.out.mid (.int .u32 0) (.int .i64 0) (.int .u32 0) (.bool false)).free; unfold four at m0 m1 m2 fr3) | (trace "FELL no"; trace_state; fail_if_success skip))
  clear f0 f1 f2 f3 fr4 m0 m1 m2 fr3
  (try simp only [Exit.inBlock, Exit.then])
  obtain ⟨k1, k2, -⟩ := SZ.out.fin (.int .u32 0) (.int .i64 0) (.int .u32 0) (.bool false) (.int .i64 2) (.int .i64 0) (.slice none 0 0)
  obtain ⟨r0, r1, r2, r3⟩ := k1.cells
  obtain ⟨t0, t1, t2⟩ := k2.cells
  clear k1 k2
  unfold ends three four at r0 r1 r2 r3 t0 t1 t2
  refine bodyPost_ret (v := .tuple #[.agg #[.int .u32 0, .int .i64 0, .int .u32 0, .bool false], .agg #[.int .i64 2, .int .i64 0, .slice none 0 0]]) (by simp [results, Try.results15, go_sem, r0, r1, r2, r3, t0, t1, t2]) rfl ?_
  exact SZ.out.bad (s := 0) HD.out (by decide) rfl (by decide)
end Go.Proofs.Ytkkfnpacejdlnaa.Opn
