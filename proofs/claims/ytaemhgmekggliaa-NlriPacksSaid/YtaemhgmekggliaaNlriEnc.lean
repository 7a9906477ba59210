/- The reference's Encode, of good prefixes. -/
import Derived.Test.YtaemhgmekggliaaNlriSame
import Derived.Test.YtaemhgmekggliaaOctState
import Derived.Deep.RegionHeld3
import Derived.Deep.DrawnRows
namespace Go.Proofs.Ytaemhgmekggliaa.PR
open Go.RowKit Mem Pfx Oct

attribute [local go_sem ↓] Go.wp_at_zero Go.wp_at_succ
/-- The bytes of a prefix; of several. -/
def enc (p : Pf) : List Nat := p.n.toNat :: (big p.a 4).take (sizeN p - 1)
def encs (l : List Pf) : List Nat := l.flatMap enc
theorem enc_len {p : Pf} (h : good p = true) : (enc p).length = sizeN p := by
  have h1 := sizeN_le p
  have h2 : 1 ≤ sizeN p := by unfold sizeN; rw [if_pos h]; omega
  simp only [enc, List.length_cons, List.length_take, big_len]
  omega
theorem encs_take {l : List Pf} {j : Nat} {p : Pf} (h : l[j]? = some p) : encs (l.take (j + 1)) = encs (l.take j) ++ enc p := by
  unfold encs
  rw [List.take_add_one, h]; simp
theorem enc_small {p : Pf} (h : good p = true) : Small (enc p) := fun x hx => by
  have := goodB_len h
  simp only [enc, List.mem_cons] at hx
  rcases hx with rfl | hx
  · omega
  · exact big_small _ _ x (List.mem_of_mem_take hx)
set_option maxRecDepth 100000 in
set_option maxHeartbeats 4000000 in
theorem refEncode_any (v : Value) (l : List Pf) (w : World) (hv : Pfxs w v l) (hg : l.all good = true) (hl : l.length ≤ 1000) : Calls Try.prog 13 #[v] w (Gives8 (encs l) w) := by
  obtain ⟨i0, E0⟩ := elem8
  have HV := Go.Lib.hid hv
  have HG := Go.Lib.hid hg
  obtain ⟨A, c, rfl, hlc, hc⟩ := hv.form
  clear hv hg
  have h0 : (w.alloc (.cells #[] 5)).ownsRow w.heap.size 5 1 (.slice (some ⟨w.heap.size, 0, none⟩) 0 0) 0 (cells8 []) := own_blk (Nat.le_refl _) (heap_alloc_new _ _)
  have hb0 : Below w.heap.size w (w.alloc (.cells #[] 5)) := (Below.refl _ w).alloc (Nat.le_refl _) _
  go_enter Try.func13, Try.ntmps13
  go_wp2
  go_loopw [3, 4] (fun v3 v4 wx => ∃ (j m : Nat) (A : Option Addr) (c : Nat), j ≤ l.length ∧ v4 = .int .i64 j ∧ v3 = .slice A m c ∧ Hid (m = (encs (l.take j)).length) ∧ m ≤ 5 * j ∧ Hid (wx.ownsRow w.heap.size 5 1 (.slice A m c) m (cells8 (encs (l.take j)))) ∧ Hid (Below w.heap.size w wx)) (fun _ v4 _ => l.length - (intOf v4).toNat)
  case atStart => exact ⟨0, 0, _, 0, Nat.zero_le _, rfl, rfl, Go.Lib.hid rfl, by omega, Go.Lib.hid h0, Go.Lib.hid hb0⟩
  case round =>
    obtain ⟨j, m, Ar, cr, hj, rfl, rfl, hm, hm5, hown, hb⟩ := hrel
    by_cases hlt : j < l.length
    · obtain ⟨p, hp⟩ : ∃ p, l[j]? = some p := ⟨_, List.getElem?_eq_getElem hlt⟩
      obtain ⟨b, off, rfl, hbl, k0, k1⟩ := (HV.out).at_ hp
      have hok := (HV.out).2 p (List.mem_of_getElem? hp)
      have hgp : good p = true := List.all_eq_true.1 HG.out p (List.mem_of_getElem? hp)
      have HKC := Go.Lib.hid (fun (W : World) (h : Below w.heap.size w W) => (⟨(h.cell (p := ⟨b, off + j * 2, none⟩) hbl).trans k0, (h.cell (p := ⟨b, off + j * 2 + 1, none⟩) hbl).trans k1⟩ : W.cell? ⟨b, off + j * 2, none⟩ = some (.int .u32 p.a) ∧ W.cell? ⟨b, off + j * 2 + 1, none⟩ = some (.int .i64 p.n)))
      have z0 : (0 : Int) ≤ (j : Int) := by omega
      have z1 : (j : Int) < (l.length : Int) := by omega
      obtain ⟨hn0, hn1⟩ := goodB_len hgp
      obtain ⟨a, n⟩ := p
      obtain ⟨k, rfl⟩ := Int.eq_ofNat_of_zero_le hn0
      obtain ⟨s, hs, hs4⟩ : ∃ s, sizeN ⟨a, (k : Int)⟩ = s + 1 ∧ s ≤ 4 := by
        have h1 := sizeN_le ⟨a, (k : Int)⟩
        have h2 : 1 ≤ sizeN ⟨a, (k : Int)⟩ := by unfold sizeN; rw [if_pos hgp]; omega
        exact ⟨sizeN ⟨a, (k : Int)⟩ - 1, by omega, by omega⟩
      obtain ⟨q, hq⟩ : ∃ q, q = s + 1 := ⟨_, rfl⟩
      have CS := Go.Lib.hid (fun (W : World) => show Calls Try.prog 9 #[.agg #[.int .u32 a, .int .i64 k]] W (Tells (.int .i64 (q : Int)) W) from by
        have h := refSize_any ⟨a, (k : Int)⟩ W hok.1
        rw [hs, ← hq] at h
        exact h)
      have wq : IntKind.i64.wrap ((q : Int) - 1) = (s : Int) := by rw [IntKind.wrap_i64]; omega
      have y0 : (0 : Int) ≤ (s : Int) := by omega
      have CB := Go.Lib.hid (fun (W : World) => show Calls Try.prog 31 #[.int .u64 a, .int .i64 4] W (fun e w' => ∃ A c, e = .returned (.slice A 4 c) ∧ 4 ≤ c ∧ w'.ownsRow W.heap.size 5 1 (.slice A 4 c) 4 (cells8 (big a 4)) ∧ Below W.heap.size W w') from (big_any a 4 W (by have h9 : a < 4294967296 := hok.1; omega) (by omega)).mono fun e w' h => by
        obtain ⟨A, c, h1, h2, h3⟩ := h
        rw [big_len] at h1 h2
        exact ⟨A, c, h1, by obtain ⟨_, A', c', e, hn, _⟩ := Row.of_own h2; injection e with e1 e2 e3; omega, h2, h3⟩)
      have hk32 : (k : Int) ≤ 32 := hn1
      have HE := Go.Lib.hid (encs_take hp)
      have HOK := Go.Lib.hid (show a < 4294967296 from hok.1)
      have BW := Go.Lib.hid (hb.out.trans ((Below.refl wr.heap.size wr).drew.mono hb.out.size))
      have S := Go.Lib.hid (own_keep hown.out ((Below.refl wr.heap.size wr).drew))
      have kc := HKC.out _ BW.out
      clear k0 k1 hp hgp hbl hok hn0 hn1 hb hown
      have T0 := Go.Lib.hid True.intro
      have hm5' : m ≤ 5000 := by omega
      have hSP : (enc ⟨a, (k : Int)⟩) = [k] ++ (big a 4).take s := by unfold enc; rw [hs]; simp
      have HSP := Go.Lib.hid hSP
      clear hSP hs hq
      have wa : IntKind.u64.wrap (a : Int) = (a : Int) := by rw [IntKind.wrap_u64]; have h9 : a < 4294967296 := HOK.out; omega
      have wk : IntKind.u8.wrap (k : Int) = (k : Int) := by rw [IntKind.wrap_u8]; omega
      go_wp2
      go_region_held3 (fun w' => w'.cell? ⟨b, off + j * 2, none⟩ = some (.int .u32 a) ∧ w'.cell? ⟨b, off + j * 2 + 1, none⟩ = some (.int .i64 (k : Int))) (first | assumption | exact HKC.out _ (BW.out.alloc BW.out.size _)) (first
        | (have tok := T0.out
           refine step_append_row (by rfl) (.tmp 12) (.tmp 19) (by rfl) E0 w.heap.size _ m (cells8 (encs (l.take j))) (by rfl) ?_ _ 1 (cells8 [k]) (by rfl) ?_ (ones8 _) ?_ ?_ ?_ (m + 1) (by rfl) ?_
           · exact own_keep S.out ((Below.refl _ _).alloc (Nat.le_refl _) _)
           · exact Row.one _ _ _
           · unfold maxLen; omega
           · omega
           · exact (BW.out.alloc BW.out.size _).size
           intro A1 c1 w1 hown hgr hat hb1
           replace BW := Go.Lib.hid ((BW.out.alloc BW.out.size _).trans hb1)
           replace S := Go.Lib.hid hown
           clear hown hgr hat hb1 tok T0
           have T1 := Go.Lib.hid True.intro
           replace kc := HKC.out _ BW.out)
        | (go_at_call 31; have tok := T1.out; refine (CB.out _).mono ?_; rintro e w2 ⟨A2, c2, rfl, h4, ho, hbb⟩; have U := Go.Lib.hid (Row.of_own ho); replace BW := Go.Lib.hid (BW.out.trans (hbb.mono BW.out.size)); replace S := Go.Lib.hid (own_keep S.out hbb); (clear ho hbb tok T1); have z4 : (s : Int) ≤ (c2 : Int) := by omega
           have z5 : (4 : Int) ≤ (c2 : Int) := by omega
           replace kc := HKC.out _ BW.out)
        | (go_at_call 9; have u := U.out; refine (CS.out _).mono ?_; rintro e w3 ⟨rfl, hbb⟩; replace BW := Go.Lib.hid (BW.out.trans (hbb.mono BW.out.size)); replace S := Go.Lib.hid (own_keep S.out hbb); have V := Go.Lib.hid (u.keep hbb); (clear u U hbb)
           replace kc := HKC.out _ BW.out)
        | (have v0 := V.out
           have v1 := v0.prefix_ (k := s) hs4
           rw [Nat.mul_one, cells8_take] at v1
           refine step_append_row (by rfl) (.tmp 20) (.tmp 34) (by rfl) E0 w.heap.size _ (m + 1) (cells8 (encs (l.take j)) ++ cells8 [k]) (by rfl) ?_ _ s (cells8 ((big a 4).take s)) (by rfl) ?_ (ones8 _) ?_ ?_ ?_ (m + 1 + s) (by rfl) ?_
           · exact S.out
           · exact v1
           · unfold maxLen; omega
           · omega
           · exact BW.out.size
           intro A4 c4 w4 hown hgr hat hb1
           replace BW := Go.Lib.hid (BW.out.trans hb1)
           replace S := Go.Lib.hid hown
           clear hown hgr hat hb1 v0 v1 V
           replace kc := HKC.out _ BW.out))
      go_wp2
      go_roundw
      case rel =>
        have e : encs (l.take (j + 1)) = (encs (l.take j) ++ [k]) ++ (big a 4).take s := by rw [HE.out, HSP.out, List.append_assoc]
        have e2 : (encs (l.take (j + 1))).length = m + 1 + s := by
          rw [e, List.length_append, List.length_append, ← hm.out, List.length_take, big_len]
          simp; omega
        refine ⟨j + 1, m + 1 + s, _, _, hlt, by go_num, rfl, Go.Lib.hid e2.symm, by omega, Go.Lib.hid ?_, BW⟩
        rw [e, cells8_append, cells8_append]
        exact S.out
      case measure => simp [intOf]; omega
    · have z1 : decide ((j : Int) < (l.length : Int)) = false := decide_eq_false (by omega)
      have HJ := Go.Lib.hid (show j = l.length by omega)
      go_wp2
      go_ret
      have h1 := hm.out
      have h2 := hown.out
      rw [HJ.out, List.take_length] at h1 h2
      subst h1
      exact ⟨_, _, rfl, h2, hb.out⟩
end Go.Proofs.Ytaemhgmekggliaa.PR
