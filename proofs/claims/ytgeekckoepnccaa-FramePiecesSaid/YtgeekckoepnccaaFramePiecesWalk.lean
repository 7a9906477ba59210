/- FramePieces' walk, out of what is asked of a stream. -/
import Derived.Test.YtgeekckoepnccaaFrmLoop
import Derived.Test.YtgeekckoepnccaaFrmLists
import Derived.Test.YtgeekckoepnccaaFrmPieces
import Derived.Test.YtgeekckoepnccaaFrmSame
import Derived.IntWalk
namespace Go.Proofs.Ytgeekckoepnccaa.Frm
open Go.RowKit Mem Oct Att
open Go.Lib (hid)

/-- What a round begins with. -/
structure Lp (T : Strm) (w : World) (s : Value) (i : Nat) (al : List Nat) (A : Option Addr) (ca : Nat) (B : Option Addr) (cb : Nat) (P : List Pc) (q : List Value) (br : Bool) (F : Nat → Prop) (W : World) : Prop where
  str : T W w.heap.size s (waitL (pcs al) al) br F
  rs : Rs w.heap.size al A ca B cb P q F W
  low : Below w.heap.size w W
  told : P = (pcs al).1
  brk : br = decide ((pcs al).2.2.code ≠ 0)
  len : al.length ≤ 300 * i
section
variable {T : Strm} {w W W2 : World} {s : Value} {i : Nat} {al : List Nat} {A : Option Addr} {ca : Nat} {B : Option Addr} {cb : Nat} {P : List Pc} {q : List Value} {br : Bool} {F F' : Nat → Prop}
theorem Lp.keep (h : Lp T w s i al A ca B cb P q br F W) (hT : Face T) (hb : Below W.heap.size W W2) : Lp T w s i al A ca B cb P q br F W2 :=
  ⟨hT.keep h.str (fun k hk => hb.block k (hT.low h.str k hk).2) hb.size, h.rs.keep hb, h.low.trans (hb.mono h.low.size), h.told, h.brk, h.len⟩
/-- The stream, once it is broken, has turned. -/
theorem Lp.only (h : Lp T w s i al A ca B cb P q br F W) (hT : Face T) (hs : T W2 w.heap.size s (waitL (pcs al) al) br F') (ho : Only F W W2) (hg : Grow F F' W) : Lp T w s i al A ca B cb P q br F' W2 :=
  ⟨hs, h.rs.only ho hg, h.low.trans (ho.below (fun k hk => (hT.low h.str k hk).1) h.low.size), h.told, h.brk, h.len⟩
end
theorem start_lp {T : Strm} (hT : Face T) {w x : World} {s : Value} {F : Nat → Prop} (hs : T x w.heap.size s [] false F) (hb : Below w.heap.size w x) :
    Lp T w s 0 [] (some ⟨x.heap.size, 0, none⟩) 0 (some ⟨x.heap.size + 1, 0, none⟩) 0 [] [] false F ((x.alloc (.cells #[] 5)).alloc (.cells #[] 57)) := by
  have b1 : Below x.heap.size x (x.alloc (.cells #[] 5)) := (Below.refl _ _).alloc (Nat.le_refl _) _
  have e1 : (x.alloc (.cells #[] 5)).heap.size = x.heap.size + 1 := by simp
  have b2 : Below (x.alloc (.cells #[] 5)).heap.size (x.alloc (.cells #[] 5)) ((x.alloc (.cells #[] 5)).alloc (.cells #[] 57)) := (Below.refl _ _).alloc (Nat.le_refl _) _
  have h1 := heap_alloc_new x (.cells #[] 5)
  have h2 := heap_alloc_new (x.alloc (.cells #[] 5)) (.cells #[] 57)
  rw [e1] at h2
  have h3 := (b2.block x.heap.size (by rw [e1]; omega)).trans h1
  have bb := b1.trans (b2.mono b1.size)
  have hlow : ∀ k, F k → k < x.heap.size := fun k hk => (hT.low hs k hk).2
  refine ⟨hT.keep hs (fun k hk => bb.block k (hlow k hk)) bb.size, ⟨⟨rfl, .inr ⟨x.heap.size, 0, #[], rfl, hb.size, h3, Nat.le_refl _, by decide, rfl, rfl⟩⟩, small_nil, ⟨rfl, .inr ⟨x.heap.size + 1, 0, #[], rfl, Nat.le_succ_of_le hb.size, h2, Nat.le_refl _, by decide, rfl, rfl⟩⟩, Bods.nil _, fun g e hf => ?_, fun g e hf => ?_, fun x hx => (by cases hx), fun x hx => (by cases hx), fun x hx => (by cases hx)⟩, hb.trans (bb.mono hb.size), rfl, by decide, by decide⟩
  · have e : x.heap.size = g := by simpa [Value.ownBlock] using e
    have := hlow g hf; omega
  · have e : x.heap.size + 1 = g := by simpa [Value.ownBlock] using e
    have := hlow g hf; omega
theorem elemFr : ∃ i, IsElem Try.prog 26 57 2 32 i (.agg #[.int .i64 0, .slice none 0 0]) := IsElem.mk_ Try.underlying26 (by kernel_rfl) rfl (by decide)
/-- Behind Feed, in a round: what it told beside all that is kept. -/
structure Md (T : Strm) (w : World) (s : Value) (wl : List Nat) (br : Bool) (al : List Nat) (A : Option Addr) (ca : Nat) (B : Option Addr) (cb : Nat) (P : List Pc) (q : List Value) (F : Nat → Prop) (n0 : Nat) (A3 : Option Addr) (c3 : Nat) (P2 : List Pc) (q2 : List Value) (vd : Value) (d : List Nat) (W : World) : Prop where
  str : T W w.heap.size s wl br F
  rs : Rs w.heap.size al A ca B cb P q F W
  low : Below w.heap.size w W
  row : W.ownsRow n0 57 2 (.slice A3 P2.length c3) P2.length (frmCells P2 q2)
  bods : Bods W P2 q2
  fF : Off q2 F
  fA : Off q2 (fun g => (Value.slice A al.length ca).ownBlock = some g)
  fT : Apart (.slice B P.length cb) q2
  rA : ∀ g, (Value.slice A3 P2.length c3).ownBlock = some g → (Value.slice A al.length ca).ownBlock ≠ some g
  dat : U8s W vd d
  dA : Off [vd] (fun g => (Value.slice A al.length ca).ownBlock = some g)
  dT : Apart (.slice B P.length cb) [vd]
section
variable {T : Strm} {w W W2 : World} {s : Value} {wl : List Nat} {br : Bool} {al : List Nat} {A : Option Addr} {ca : Nat} {B : Option Addr} {cb : Nat} {P : List Pc} {q : List Value} {F : Nat → Prop} {n0 : Nat} {A3 : Option Addr} {c3 : Nat} {P2 : List Pc} {q2 : List Value} {vd : Value} {d D : List Nat}
theorem Md.keep (h : Md T w s wl br al A ca B cb P q F n0 A3 c3 P2 q2 vd d W) (hT : Face T) (hb : Below W.heap.size W W2) : Md T w s wl br al A ca B cb P q F n0 A3 c3 P2 q2 vd d W2 :=
  ⟨hT.keep h.str (fun k hk => hb.block k (hT.low h.str k hk).2) hb.size, h.rs.keep hb, h.low.trans (hb.mono h.low.size), own_keep h.row hb, h.bods.keep hb, h.fF, h.fA, h.fT, h.rA, h.dat.keep hb, h.dA, h.dT⟩
theorem md_start {i : Nat} {F' : Nat → Prop} (h : Lp T w s i al A ca B cb P q br F W) (hT : Face T) {br' : Bool} (hs : T W2 w.heap.size s wl br' F') (ho : Only F W W2) (hg : Grow F F' W) (hrow : W2.ownsRow W.heap.size 57 2 (.slice A3 P2.length c3) P2.length (frmCells P2 q2)) (hb : Bods W2 P2 q2) (hO : Off q2 (fun b => b < W.heap.size ∨ F' b)) (hd : U8s W2 vd d) (hdB : Off [vd] (fun b => b < W.heap.size)) :
    Md T w s wl br' al A ca B cb P q F' W.heap.size A3 c3 P2 q2 vd d W2 := by
  have ha := fun g e => (h.rs.all.lt g e).2
  have ht := fun g e => (h.rs.row.lt g e).2
  refine ⟨hs, h.rs.only ho hg, h.low.trans (ho.below (fun k hk => (hT.low h.str k hk).1) h.low.size), hrow, hb, fun x hx b off m c e hm hf => hO x hx b off m c e hm (.inr hf), fun x hx b off m c e hm hf => hO x hx b off m c e hm (.inl (ha b hf)), fun x hx b off m c e hm hf => hO x hx b off m c e hm (.inl (ht b hf)), fun g e hf => ?_, hd, fun x hx b off m c e hm hf => hdB x hx b off m c e hm (ha b hf), fun x hx b off m c e hm hf => hdB x hx b off m c e hm (ht b hf)⟩
  have := ha g hf; have := (hrow.lt g e).1; omega
theorem Md.all {A' : Option Addr} {c' : Nat} (h : Md T w s wl br al A ca B cb P q F n0 A3 c3 P2 q2 vd d W) (hT : Face T) (hD : Small D) (hown : W2.ownsRow w.heap.size 5 1 (.slice A' (al ++ D).length c') (al ++ D).length (cells8 al ++ cells8 D)) (hg : W.grownBy W2 (Value.slice A al.length ca).ownBlock)
    (hat : (Value.slice A' (al ++ D).length c').ownBlock = (Value.slice A al.length ca).ownBlock ∨ (Value.slice A' (al ++ D).length c').ownBlock = some W.heap.size) (hb : Below w.heap.size W W2) : Md T w s wl br (al ++ D) A' c' B cb P q F n0 A3 c3 P2 q2 vd d W2 := by
  have hF := fun k hk => (hT.low h.str k hk).2
  refine ⟨hT.keep h.str (fun k hk => hg.block k (hF k hk) (fun e => h.rs.aF k e.symm hk)) hg.size, h.rs.all_more hF hD hown hg hat, h.low.trans hb, own_same2 h.row (fun g e => hg.block g (h.row.lt g e).2 (fun k => h.rA g e k.symm)), bods_part h.bods h.fA (fun k hk hG => hg.block k hk (fun e => hG e.symm)) hg.size, h.fF, fun x hx b off m c e hm hf => ?_, h.fT, fun g e hf => ?_, u8_kept (Below.refl _ _) hg h.dat (fun b off m c e hm => h.dA vd (by simp) b off m c e hm), fun x hx b off m c e hm hf => ?_, h.dT⟩
  · rcases hat with k | k
    · exact h.fA x hx b off m c e hm (k ▸ hf)
    · have := bods_at h.bods hx e hm
      rw [k] at hf; injection hf with hf; omega
  · rcases hat with k | k
    · exact h.rA g e (k ▸ hf)
    · rw [k] at hf; injection hf with hf; have := (h.row.lt g e).2; omega
  · obtain rfl : x = vd := by simpa using hx
    rcases hat with k | k
    · exact h.dA _ (by simp) b off m c e hm (k ▸ hf)
    · have hu := h.dat
      rw [e] at hu
      have := u8_lt hu hm
      rw [k] at hf; injection hf with hf; omega
/-- And what is told beside. -/
theorem Md.told {B' : Option Addr} {c' : Nat} (h : Md T w s wl br al A ca B cb P q F n0 A3 c3 P2 q2 vd d W) (hT : Face T) (hown : W2.ownsRow w.heap.size 57 2 (.slice B' (P ++ P2).length c') (P ++ P2).length (frmCells P q ++ frmCells P2 q2)) (hg : W.grownBy W2 (Value.slice B P.length cb).ownBlock)
    (hat : (Value.slice B' (P ++ P2).length c').ownBlock = (Value.slice B P.length cb).ownBlock ∨ (Value.slice B' (P ++ P2).length c').ownBlock = some W.heap.size) (hb : Below w.heap.size W W2) : T W2 w.heap.size s wl br F ∧ Rs w.heap.size al A ca B' c' (P ++ P2) (q ++ q2) F W2 ∧ Below w.heap.size w W2 ∧ U8s W2 vd d := by
  have hF := fun k hk => (hT.low h.str k hk).2
  exact ⟨hT.keep h.str (fun k hk => hg.block k (hF k hk) (fun e => h.rs.tF k e.symm hk)) hg.size, h.rs.told_more hF h.bods h.fF h.fA h.fT hown hg hat, h.low.trans hb, u8_kept (Below.refl _ _) hg h.dat (fun b off m c e hm => h.dT vd (by simp) b off m c e hm)⟩
end
set_option maxRecDepth 100000 in
set_option maxHeartbeats 8000000 in
theorem pieces_of {T : Strm} (hT : Face T) (hLV : ∀ W, Calls Try.prog 16 #[] W (Tells (.bool true) W)) (v : Value) (ls : List (List Nat)) (w : World) (hv : Lists8 w v ls) :
    Calls Try.prog 3 #[v] w (Tells (.bool true) w) := by
  have HT := hid hT
  have CL := hid hLV
  have CNW := hid (hT.new w)
  have HV := hid hv
  obtain ⟨A0, c0, rfl, -, -⟩ := hv.form
  clear hv hT hLV
  go_enter Try.func3, Try.ntmps3
  go_wp2_with (go_at_call 7; refine (CNW.out).mono ?_; rintro e x0 ⟨bs, F0, rfl, hs, hb⟩; have LP0 := hid (start_lp HT.out hs hb); clear hs hb)
  go_loopw [4, 5, 6, 7] (fun v4 v5 v6 v7 wx => ∃ (i : Nat) (al : List Nat) (A : Option Addr) (ca : Nat) (B : Option Addr) (cb : Nat) (P : List Pc) (q : List Value) (br : Bool) (F : Nat → Prop), i ≤ 25 ∧ v7 = .int .i64 i ∧ v4 = .slice A al.length ca ∧ v5 = .slice B P.length cb ∧ v6 = .bool br ∧ Hid (Lp T w (.pointer (some ⟨bs, 0, none⟩)) i al A ca B cb P q br F wx)) (fun _ _ _ v7 _ => 25 - (intOf v7).toNat)
  case atStart => exact ⟨0, [], _, 0, _, 0, [], [], false, F0, Nat.zero_le _, rfl, rfl, rfl, rfl, LP0⟩
  case round =>
    obtain ⟨i, al, A, ca, B, cb, P, q, br, F, hi, rfl, rfl, rfl, rfl, LP⟩ := hrel
    clear LP0 CNW
    by_cases h1 : i < ls.length ∧ i < 25
    case neg =>
      rcases (show ls.length ≤ i ∨ i < ls.length ∧ 25 ≤ i by omega) with h2 | ⟨h2, h3⟩
      focus have z1 : (ls.length : Int) ≤ (i : Int) := by omega
      rotate_left
      focus
        have z1 : (i : Int) < (ls.length : Int) := by omega
        have z2 : (25 : Int) ≤ (i : Int) := by omega
      all_goals
        have CR := hid (HT.out.reset LP.out.str)
        clear h1 h2
        (try clear h3)
        go_wp2_with (first
          | (go_at_call 15; refine (CR.out).mono ?_; rintro e x ⟨F2, rfl, hs, ho, hg⟩; have B1 := hid (LP.out.low.trans (ho.below (fun k hk => (HT.out.low LP.out.str k hk).1) LP.out.low.size)); have S1 := hid hs; clear hs ho hg)
          | (go_at_call 10; refine (HT.out.waits S1.out).mono ?_; rintro e y ⟨rfl, hb⟩; have B2 := hid (B1.out.trans (hb.mono B1.out.size)); have S2 := hid (HT.out.keep S1.out (fun k hk => hb.block k (HT.out.low S1.out k hk).2) hb.size); clear hb)
          | (go_at_call 11; refine (HT.out.broken S2.out).mono ?_; rintro e z ⟨rfl, hb⟩; have B3 := hid (B2.out.trans (hb.mono B2.out.size)); clear hb)
          | (go_at_call 16; refine (CL.out _).mono ?_; rintro e z2 ⟨rfl, hb⟩; have B4 := hid (B3.out.trans (hb.mono B3.out.size)); clear hb))
        go_ret
        exact ⟨rfl, B4.out⟩
    have z1 : (i : Int) < (ls.length : Int) := by omega
    have z2 : (i : Int) < 25 := by omega
    have z0 : (0 : Int) ≤ (i : Int) := by omega
    obtain ⟨b0, off, xv, rfl, hcell, hx⟩ := ((HV.out).keep LP.out.low).at_ h1.1
    obtain ⟨Ax, cx, rfl, -, -⟩ := hx.form
    have CB := hid (show Calls Try.prog 8 #[.slice Ax ls[i].length cx, .int .i64 300] wr (Gives8 (ls[i].take 300) wr) from bytes_any _ ls[i] 300 wr hx (by decide))
    have HD := hid (show Small (ls[i].take 300) ∧ (ls[i].take 300).length ≤ 300 from ⟨hx.2.take 300, by rw [List.length_take]; omega⟩)
    clear hx
    generalize ls[i].take 300 = D at CB HD
    generalize ls[i].length = nx at CB hcell
    have CB2 := hid (fun (v : Value) (W : World) (h : U8s W v D) => show Calls Try.prog 8 #[v, .int .i64 300] W (Gives8 D W) from by
      have h3 := bytes_any v D 300 W h (by decide)
      rw [List.take_of_length_le HD.out.2] at h3
      exact h3)
    have HI := hid h1
    clear h1
    cases br with
    | true =>
      have hw : waitL (pcs al) al = [] := by unfold waitL; rw [if_pos (of_decide_eq_true LP.out.brk.symm)]
      have CW := hid (fun W F2 (h : T W w.heap.size (.pointer (some ⟨bs, 0, none⟩)) (waitL (pcs al) al) true F2) => show Calls Try.prog 10 #[.pointer (some ⟨bs, 0, none⟩)] W (Tells (.int .i64 0) W) from by
        have h2 := HT.out.waits h
        rw [hw] at h2
        exact h2)
      clear hw
      go_wp2_with (first
        | (have h := O1.out; go_at_call 8; refine (CB2.out _ _ h).mono ?_; rintro e w2 ⟨A2, c2, rfl, ho, hb⟩; have O2 := hid (U8s.of_own ho HD.out.1); replace LP := hid (LP.out.keep HT.out hb); clear ho hb h O1)
        | (go_at_call 8; refine CB.out.mono ?_; rintro e w1 ⟨A1, c1, rfl, ho, hb⟩; have O1 := hid (U8s.of_own ho HD.out.1); replace LP := hid (LP.out.keep HT.out hb); clear ho hb hcell)
        | (have h := O2.out; go_at_call 9; refine (HT.out.stop LP.out.str h (Nat.le_trans HD.out.2 (by decide))).mono ?_; rintro e w3 ⟨A3, c3, A4, k4, c4, F2, rfl, hs, ho, hg⟩; have hb := box_low w3 (.int .i64 0) (.int .i64 0) (.slice A4 k4 c4); have LP3 := hid ((LP.out.only HT.out hs ho hg).keep HT.out hb); have X3 := hid (Box3.new w3 29 (.int .i64 0) (.int .i64 0) (.slice A4 k4 c4)); clear hs ho hg hb h O2)
        | (go_at_call 10; refine (CW.out _ _ LP3.out.str).mono ?_; rintro e w4 ⟨rfl, hb⟩; have LP4 := hid (LP3.out.keep HT.out hb); clear hb)
        | (go_at_call 11; refine (HT.out.broken LP4.out.str).mono ?_; rintro e w5 ⟨rfl, hb⟩; have LP5 := hid (LP4.out.keep HT.out hb); clear hb))
      go_roundw
      case rel => exact ⟨i + 1, al, A, ca, B, cb, P, q, true, F2, HI.out.2, by go_num, rfl, rfl, rfl, hid ⟨LP5.out.str, LP5.out.rs, LP5.out.low, LP5.out.told, LP5.out.brk, Nat.le_trans LP5.out.len (by omega)⟩⟩
      case measure => simp [intOf]; have := HI.out.2; omega
    | false =>
      have hc0 : (pcs al).2.2.code = 0 := by have h := LP.out.brk; simpa using h
      obtain ⟨N1, N2⟩ := pcs_next (b := D) hc0
      have WLE := wait_le al
      have ALN := LP.out.len
      have PE := pcs_end (al ++ D)
      have PF := pcs_few al
      have PE0 := pcs_end al
      rw [← LP.out.told] at PF
      have PG := pcs_few (al ++ D)
      have WN := pcs_wf (waitL (pcs al) al ++ D)
      have HDL := HD.out.2
      have CF := hid (fun (v : Value) (W : World) (hs : T W w.heap.size (.pointer (some ⟨bs, 0, none⟩)) (waitL (pcs al) al) false F) (h : U8s W v D) (hv : ∀ g, v.ownBlock = some g → ¬ F g) (hb : w.heap.size ≤ W.heap.size) => HT.out.feed hs h hv (by omega) (by omega) hb)
      have CP := hid (fun A c W (h : U8s W (.slice A (al ++ D).length c) (al ++ D)) => show Calls Try.prog 12 #[.slice A (al.length + D.length) c] W (PiecesF (al ++ D) W) from by
        have h3 := pieces_any _ (al ++ D) W h (by rw [List.length_append]; omega)
        rw [show (al ++ D).length = al.length + D.length from List.length_append] at h3
        exact h3)
      unfold FeedF at CF
      unfold PiecesF at CP
      have HLW := hid (fun h : (pcs (al ++ D)).2.2.code = 0 => wait_len h)
      rw [N2] at HLW
      rw [N1, ← LP.out.told] at CP HLW PE PG
      have HNX := hid N1
      have HNW := hid N2
      generalize pcs (waitL (pcs al) al ++ D) = R at CF CP HLW PE PG WN HNX HNW
      obtain ⟨P2, E2, n2⟩ := R
      obtain ⟨cd, sb, dd⟩ := n2
      dsimp only at CF CP HLW PE PG WN HNX
      have HWL := hid (fun h : cd ≠ 0 => show waitL (P2, E2, ⟨cd, sb, dd⟩) (waitL (pcs al) al ++ D) = [] from if_pos h)
      generalize waitL (P2, E2, ⟨cd, sb, dd⟩) (waitL (pcs al) al ++ D) = wl at CF HLW HNW HWL
      generalize (pcs al).2.1 = E at CP HLW PE PG HNX PF PE0
      have HWN := hid WN
      have CM := hid (fun v x W (h : Frms W v (P ++ P2)) (h2 : Frms W x (P ++ P2)) => show Calls Try.prog 13 #[v, x] W (Tells (.bool true) W) from by
        have h3 := same12_any v x _ _ W h h2
        rw [decide_eq_true rfl] at h3
        exact h3)
      have CT := hid (fun v x W (h : Note W v ⟨cd, sb, dd⟩) (h2 : Note W x ⟨cd, sb, dd⟩) => show Calls Try.prog 14 #[v, x] W (Tells (.bool true) W) from by
        have h3 := told_any _ _ _ _ W h h2
        rw [sameN_iff.2 rfl] at h3
        exact h3)
      obtain ⟨i8, E8⟩ := elem8
      obtain ⟨i9, E9⟩ := elemFr
      have HPP := hid (show P.length ≤ 7500 ∧ (P ++ P2).length ≤ 8000 ∧ al.length ≤ 7500 from by
        rw [List.length_append] at PE
        exact ⟨by omega, by omega, by omega⟩)
      have HTD := hid LP.out.told
      have HLN := hid LP.out.len
      have HAD := hid (show (al ++ D).length = al.length + D.length from List.length_append)
      have HPD := hid (show (P ++ P2).length = P.length + P2.length from List.length_append)
      have HEE := hid PE
      clear N1 N2 WLE PE PF PG PE0 WN hc0
      by_cases hcd : cd = 0
      focus
        have y1 : (cd != 0) = false := by simp [hcd]
        have hb2 : decide (cd ≠ 0) = false := by simp [hcd]
        rw [hb2] at CF
        have HBR := hid hb2
        have h1 := HLW.out hcd
        have h2 := HEE.out
        rw [HAD.out] at h1 h2
        have e5 : (al.length : Int) + (D.length : Int) - ((E : Int) + (E2 : Int)) = (wl.length : Int) := by omega
        have w5 : wrap64 (wl.length : Int) = (wl.length : Int) := IntWalk.wrap64_in _ (by have := HPP.out; have := HD.out.2; omega)
        have y4 : ((wl.length : Int) != (wl.length : Int)) = false := by simp
        clear h1 h2
        clear hb2 hcd
      rotate_left
      focus
        have y1 : (cd != 0) = true := by simp [hcd]
        have hb2 : decide (cd ≠ 0) = true := by simp [hcd]
        rw [hb2] at CF
        have HBR := hid hb2
        have y4 : ((wl.length : Int) != 0) = false := by rw [HWL.out hcd]; rfl
        clear hb2 hcd
      all_goals
        go_wp2_with (first
          | (have h := O1.out; go_at_call 8; refine (CB2.out _ _ h).mono ?_; rintro e w2 ⟨A2, c2, rfl, ho, hb⟩; have O2 := hid (U8s.of_own ho HD.out.1); have OF2 := hid (fun g (e : (Value.slice A2 D.length c2).ownBlock = some g) => show ¬ F g from fun hf => by have := (ho.lt g e).1; have := (HT.out.low LP.out.str g hf).2; omega); have K2 := hid (h.keep hb); replace OF1 := hid (fun g e => And.intro (OF1.out g e).1 (Nat.lt_of_lt_of_le (OF1.out g e).2 hb.size)); replace LP := hid (LP.out.keep HT.out hb); clear ho hb h O1)
          | (go_at_call 8; refine CB.out.mono ?_; rintro e w1 ⟨A1, c1, rfl, ho, hb⟩; have O1 := hid (U8s.of_own ho HD.out.1); have OF1 := hid (fun g (e : (Value.slice A1 D.length c1).ownBlock = some g) => show ¬ F g ∧ g < w1.heap.size from ⟨fun hf => by have := (ho.lt g e).1; have := (HT.out.low LP.out.str g hf).2; omega, (ho.lt g e).2⟩); replace LP := hid (LP.out.keep HT.out hb); clear ho hb hcell)
          | (have h := O2.out; go_at_call 9; refine (CF.out _ _ LP.out.str h OF2.out LP.out.low.size).mono ?_; rintro e w3 ⟨A3, c3, q2, A4, k4, c4, F2, rfl, hrow, hbd, hO, hd, hdB, hs, ho, hg⟩; have hk := K2.out.part (fun g e => ho.block g (OF1.out g e).2 (OF1.out g e).1) ho.size; have hM := md_start LP.out HT.out hs ho hg hrow hbd hO hd hdB; have HAB := hid (And.intro (fun g e => (hM.rs.all.lt g e).2) (fun g e => (hM.rs.row.lt g e).2)); have hb := box_low w3 (.int .i64 cd) (.int .i64 sb) (.slice A4 k4 c4); have MD := hid (hM.keep HT.out hb); have K3 := hid (hk.keep hb); have X3 := hid (Box3.new w3 29 (.int .i64 cd) (.int .i64 sb) (.slice A4 k4 c4)); clear hrow hbd hO hd hdB hs ho hg hk hM hb h O2 K2 OF1 OF2 LP)
          | (have h := K3.out; at_builtin; refine wpList_append_row rfl (.tmp 59) (.tmp 60) rfl E8 w.heap.size _ al.length (cells8 al) rfl MD.out.rs.all _ D.length (cells8 D) rfl h.1 (ones8 _) (by have := HPP.out; have := HD.out.2; unfold maxLen; omega) (by have := HPP.out; have := HD.out.2; omega) MD.out.low.size (al ++ D).length HAD.out.symm ?_; intro A5 c5 x5 hown hg hat hb; have MD2 := hid (MD.out.all HT.out HD.out.1 hown hg hat hb); have X5 := hid (X3.out.below (fun k hk => hg.block k (by rw [hk]; exact X3.out.lt) (fun e => by have := HAB.out.1 k e.symm; omega))); clear hown hg hat hb h K3 MD X3)
          | (have h := MD2.out; at_builtin; refine wpList_append_row rfl (.tmp 62) (.tmp 63) rfl E9 w.heap.size _ P.length (frmCells P q) rfl h.rs.row _ P2.length (frmCells P2 q2) rfl (Row.of_own h.row) (ones_frms P2 q2 h.bods.ones) (by have := HPP.out; have := HPD.out; unfold maxLen; omega) (by have := HPP.out; have := HPD.out; omega) h.low.size (P ++ P2).length HPD.out.symm ?_; intro B6 c6 x6 hown hg hat hb; have MD3 := hid (h.told HT.out hown hg hat hb); have X6 := hid (X5.out.below (fun k hk => hg.block k (by rw [hk]; exact X5.out.lt) (fun e => by have := HAB.out.2 k e.symm; omega))); clear hown hg hat hb h MD2 X5)
          | (have h := MD3.out; go_at_call 12; refine (CP.out _ _ _ (U8s.of_own h.2.1.all h.2.1.sm)).mono ?_; rintro e y ⟨A7, c7, A8, k8, c8, rfl, hf, hu, hb0⟩; have hb2 := box_low y (.int .i64 cd) (.int .i64 sb) (.slice A8 k8 c8); have hb := hb0.trans (hb2.mono hb0.size); have G7 := hid (show Frms _ (.slice A7 (P.length + P2.length) c7) (P ++ P2) from by (have q5 := hf.keep hb2; rw [HPD.out] at q5; exact q5)); have G6 := hid (show Frms _ (.slice B6 (P.length + P2.length) c6) (P ++ P2) from by (have q5 : Frms x6 (.slice B6 (P ++ P2).length c6) (P ++ P2) := ⟨_, Row.of_own h.2.1.row, h.2.1.bods⟩; have q6 := q5.keep hb; rw [HPD.out] at q6; exact q6)); have N8 := hid (And.intro (h.2.2.2.keep hb) (hu.keep hb2)); have S8 := hid (And.intro (HT.out.keep h.1 (fun k hk => hb.block k (HT.out.low h.1 k hk).2) hb.size) (And.intro (h.2.1.keep hb) (h.2.2.1.trans (hb.mono h.2.2.1.size)))); have X8 := hid (And.intro (X6.out.keep hb) (Box3.new y 29 (.int .i64 cd) (.int .i64 sb) (.slice A8 k8 c8))); obtain ⟨p0, p1, p2⟩ := X8.out.1.cells; obtain ⟨q0, q1, q3⟩ := X8.out.2.cells; clear hf hu hb hb0 hb2 h MD3 X6)
          | (go_at_call 13; refine (CM.out _ _ _ G6.out G7.out).mono ?_; rintro e z ⟨rfl, hb⟩; replace S8 := hid (And.intro (HT.out.keep S8.out.1 (fun k hk => hb.block k (HT.out.low S8.out.1 k hk).2) hb.size) (And.intro (S8.out.2.1.keep hb) (S8.out.2.2.trans (hb.mono S8.out.2.2.size)))); replace N8 := hid (And.intro (N8.out.1.keep hb) (N8.out.2.keep hb)); replace X8 := hid (And.intro (X8.out.1.keep hb) (X8.out.2.keep hb)); clear p0 p1 p2 q0 q1 q3; obtain ⟨p0, p1, p2⟩ := X8.out.1.cells; obtain ⟨q0, q1, q3⟩ := X8.out.2.cells; clear hb G6 G7)
          | (go_at_call 14; refine (CT.out _ _ _ ⟨HWN.out.1, HWN.out.2, _, rfl, N8.out.1⟩ ⟨HWN.out.1, HWN.out.2, _, rfl, N8.out.2⟩).mono ?_; rintro e z ⟨rfl, hb⟩; replace S8 := hid (And.intro (HT.out.keep S8.out.1 (fun k hk => hb.block k (HT.out.low S8.out.1 k hk).2) hb.size) (And.intro (S8.out.2.1.keep hb) (S8.out.2.2.trans (hb.mono S8.out.2.2.size)))); clear hb p0 p1 p2 q0 q1 q3)
          | (go_at_call 11; refine (HT.out.broken S8.out.1).mono ?_; rintro e z ⟨rfl, hb⟩; replace S8 := hid (And.intro (HT.out.keep S8.out.1 (fun k hk => hb.block k (HT.out.low S8.out.1 k hk).2) hb.size) (And.intro (S8.out.2.1.keep hb) (S8.out.2.2.trans (hb.mono S8.out.2.2.size)))); clear hb)
          | (go_at_call 10; refine (HT.out.waits S8.out.1).mono ?_; rintro e z ⟨rfl, hb⟩; replace S8 := hid (And.intro (HT.out.keep S8.out.1 (fun k hk => hb.block k (HT.out.low S8.out.1 k hk).2) hb.size) (And.intro (S8.out.2.1.keep hb) (S8.out.2.2.trans (hb.mono S8.out.2.2.size)))); clear hb))
        go_roundw
        case rel => exact ⟨i + 1, al ++ D, A5, c5, B6, c6, P ++ P2, q ++ q2, _, F2, HI.out.2, by go_num, by rw [HAD.out], by rw [HPD.out], rfl, hid ⟨by rw [HNW.out]; exact S8.out.1, S8.out.2.1, S8.out.2.2, by rw [HNX.out, ← HTD.out], by rw [HNX.out]; exact HBR.out.symm, by rw [HAD.out]; have := HPP.out; have := HD.out.2; have := HLN.out; omega⟩⟩
        case measure => simp [intOf]; have := HI.out.2; omega
end Go.Proofs.Ytgeekckoepnccaa.Frm
