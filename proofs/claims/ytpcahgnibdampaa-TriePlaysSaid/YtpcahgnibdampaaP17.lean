/- The reference's Longest. -/
import Derived.Test.YtpcahgnibdampaaP06
import Derived.Test.YtpcahgnibdampaaP15
import Derived.Deep.DrawnRows
namespace Go.Proofs.Ytpcahgnibdampaa.Tri
open Go.RowKit Mem PR Pfx
def BestAt (l : List Ent) (b : Option Ent) (o : Option Nat) : Prop :=
  (o = none ∧ b = none) ∨ ∃ k x, o = some k ∧ k < l.length ∧ l[k]? = some x ∧ b = some x
def LongF (l : List Ent) (a : Nat) (w : World) (e : Ending) (w' : World) : Prop :=
  ∃ o, e = .returned (.int .i64 (idxV o)) ∧ BestAt l (longE a none l) o ∧ Below w.heap.size w w'
set_option maxRecDepth 100000 in
set_option maxHeartbeats 16000000 in
theorem rlong_any (v : Value) (l : List Ent) (a : Nat) (w : World) (hv : Rws w v l) (ha : a < 4294967296) :
    Calls Try.prog 10 #[v, .int .u32 a] w (LongF l a w) := by
  have HV := Go.Lib.hid hv
  obtain ⟨A, c, rfl, hlc, hc⟩ := hv.form
  clear hv
  go_enter Try.func10, Try.ntmps10
  go_wp2
  go_loopw [5, 6] (fun v5 v6 wx => ∃ (j : Nat) (o : Option Nat), j ≤ l.length ∧ v6 = .int .i64 j ∧ v5 = .int .i64 (idxV o) ∧ Hid (BestAt l (longE a none (l.take j)) o) ∧ Hid (Below w.heap.size w wx)) (fun _ v6 _ => l.length - (intOf v6).toNat)
  case atStart => exact ⟨0, none, Nat.zero_le _, rfl, rfl, Go.Lib.hid (.inl ⟨rfl, by simp [longE]⟩), Go.Lib.hid (Below.refl _ _)⟩
  case round =>
    obtain ⟨j, o, hj, rfl, rfl, hbest, hb⟩ := hrel
    by_cases hlt : j < l.length
    · obtain ⟨r, hr⟩ : ∃ r, l[j]? = some r := ⟨_, List.getElem?_eq_getElem hlt⟩
      obtain ⟨bl, off, rfl, hbl, k0, k1, _⟩ := (HV.out).at_ hr
      have hro := ((HV.out).2 r (List.mem_of_getElem? hr)).1.1
      have HST := Go.Lib.hid (long_take (a := a) hr)
      have HRR := Go.Lib.hid hr
      have CC := Go.Lib.hid (fun (W : World) => refCovers_any r.p.a r.p.n a 32 hro ha W)
      have z0 : (0 : Int) ≤ (j : Int) := by omega
      have z1 : (j : Int) < (l.length : Int) := by omega
      have hcv : covP r.p ⟨a, 32⟩ = coversB r.p.a r.p.n a 32 := rfl
      have BW := Go.Lib.hid ((Below.refl wr.heap.size wr).drew)
      clear hr hro
      cases hc : coversB r.p.a r.p.n a 32 with
      | false =>
        have HB0 := Go.Lib.hid (show BestAt l (longE a none (l.take (j + 1))) o by rw [HST.out, hcv, hc]; exact hbest.out)
        rw [hc] at CC
        have HKC := Go.Lib.hid (fun (W : World) (h : Below wr.heap.size wr W) => (⟨((hb.out.trans (h.mono hb.out.size)).cell (p := ⟨bl, off + j * 3, none⟩) hbl).trans k0, ((hb.out.trans (h.mono hb.out.size)).cell (p := ⟨bl, off + j * 3 + 1, none⟩) hbl).trans k1⟩ :
          W.cell? ⟨bl, off + j * 3, none⟩ = some (.int .u32 r.p.a) ∧ W.cell? ⟨bl, off + j * 3 + 1, none⟩ = some (.int .i64 r.p.n)))
        generalize hT : idxV o = T at *
        have HT := Go.Lib.hid hT
        clear hT
        obtain ⟨⟨ra, rn⟩, rv⟩ := r
        dsimp only at CC HKC
        clear hc hcv HST hbest k0 k1 hbl HRR
        go_wp2
        refine wp_region_noPanic ?_
        refine wp_region_held_drew (S := (fun w' => w'.cell? ⟨bl, off + j * 3, none⟩ = some (.int .u32 ra) ∧ w'.cell? ⟨bl, off + j * 3 + 1, none⟩ = some (.int .i64 rn))) (by kernel_rfl) (HKC.out _ BW.out) (fun hHeld => ?_)
        refine Take.tk 0 13 hHeld ?_
        refine Take.tk 1 14 hHeld ?_
        refine Take.tk 2 15 hHeld ?_
        try simp only [Act.put, Take.nm]
        refine Take.tk 3 16 hHeld ?_
        refine Take.tk 4 17 hHeld ?_
        refine Take.tk 5 18 hHeld ?_
        try simp only [Act.put, Take.nm]
        refine Take.tk 6 19 hHeld ?_
        try simp only [Act.put, Take.nm]
        refine wpAnyH_ready (rs := [7]) (by kernel_rfl) (by simp) ?_
        refine AllReadyH.cons (o := _) (by rfl) (fun K hK => ?_) AllReadyH.nil
        go_simp
        go_at_call 29; refine (CC.out _).mono ?_; rintro e x ⟨rfl, hb⟩; replace BW := Go.Lib.hid (BW.out.trans (hb.mono BW.out.size)); clear hb
        (try go_wp2_with fail)
        refine hK.out _ _ (HKC.out _ BW.out) (fun hHeld1 => ?_)
        clear hK K
        try simp only [Act.put, Take.nm]
        refine Take.tk 8 21 hHeld1 ?_
        refine Take.sk [(9, 22), (10, 23), (11, 24), (12, 25), (13, 26), (14, 27), (15, 28), (16, 29), (17, 30), (18, 31), (19, 32), (20, 33), (21, 34), (22, 35), (23, 36), (24, 37), (25, 38)] hHeld1 ?_
        try simp only [Take.fl, Act.put, Take.nm]
        refine Take.tk 26 39 hHeld1 ?_
        refine wpAnyH_done (by kernel_rfl) ?_ _
        refine NoPanic.normal ?_
        go_wp2
        go_roundw
        case rel => exact ⟨j + 1, o, hlt, by go_num, by rw [HT.out], HB0, Go.Lib.hid (hb.out.trans (BW.out.mono hb.out.size))⟩
        case measure => simp [intOf]; omega
      | true =>
        rw [hc] at CC
        rw [hcv, hc, Bool.true_and] at HST
        clear hc hcv
        rcases o with _ | k
        · have hnone : longE a none (l.take j) = none := by
            rcases hbest.out with h | ⟨_, _, h, _⟩
            · exact h.2
            · cases h
          have HB0 := Go.Lib.hid (show BestAt l (longE a none (l.take (j + 1))) (some j) by
            rw [HST.out, hnone]
            exact .inr ⟨j, r, rfl, hlt, HRR.out, rfl⟩)
          have HKC := Go.Lib.hid (fun (W : World) (h : Below wr.heap.size wr W) => (⟨((hb.out.trans (h.mono hb.out.size)).cell (p := ⟨bl, off + j * 3, none⟩) hbl).trans k0, ((hb.out.trans (h.mono hb.out.size)).cell (p := ⟨bl, off + j * 3 + 1, none⟩) hbl).trans k1⟩ :
          W.cell? ⟨bl, off + j * 3, none⟩ = some (.int .u32 r.p.a) ∧ W.cell? ⟨bl, off + j * 3 + 1, none⟩ = some (.int .i64 r.p.n)))
          obtain ⟨⟨ra, rn⟩, rv⟩ := r
          dsimp only at CC HKC
          simp only [idxV]
          clear HST hbest k0 k1 hbl HRR hnone
          go_wp2
          refine wp_region_noPanic ?_
          refine wp_region_held_drew (S := (fun w' => w'.cell? ⟨bl, off + j * 3, none⟩ = some (.int .u32 ra) ∧ w'.cell? ⟨bl, off + j * 3 + 1, none⟩ = some (.int .i64 rn))) (by kernel_rfl) (HKC.out _ BW.out) (fun hHeld => ?_)
          refine Take.tk 0 13 hHeld ?_
          refine Take.tk 1 14 hHeld ?_
          refine Take.tk 2 15 hHeld ?_
          try simp only [Act.put, Take.nm]
          refine Take.tk 3 16 hHeld ?_
          refine Take.tk 4 17 hHeld ?_
          refine Take.tk 5 18 hHeld ?_
          try simp only [Act.put, Take.nm]
          refine Take.tk 6 19 hHeld ?_
          try simp only [Act.put, Take.nm]
          refine wpAnyH_ready (rs := [7]) (by kernel_rfl) (by simp) ?_
          refine AllReadyH.cons (o := _) (by rfl) (fun K hK => ?_) AllReadyH.nil
          go_simp
          go_at_call 29; refine (CC.out _).mono ?_; rintro e x ⟨rfl, hb⟩; replace BW := Go.Lib.hid (BW.out.trans (hb.mono BW.out.size)); clear hb
          (try go_wp2_with fail)
          refine hK.out _ _ (HKC.out _ BW.out) (fun hHeld1 => ?_)
          clear hK K
          try simp only [Act.put, Take.nm]
          refine Take.tk 8 21 hHeld1 ?_
          refine Take.tk 9 22 hHeld1 ?_
          refine Take.tk 10 23 hHeld1 ?_
          try simp only [Act.put, Take.nm]
          refine Take.tk 11 24 hHeld1 ?_
          refine Take.sk [(12, 25), (13, 26), (14, 27), (15, 28), (16, 29), (17, 30), (18, 31), (19, 32), (20, 33), (21, 34), (22, 35), (23, 36), (24, 37)] hHeld1 ?_
          try simp only [Take.fl, Act.put, Take.nm]
          refine Take.tk 25 38 hHeld1 ?_
          refine Take.tk 26 39 hHeld1 ?_
          try simp only [Act.put, Take.nm]
          refine wpAnyH_done (by kernel_rfl) ?_ _
          refine NoPanic.normal ?_
          go_wp2
          go_roundw
          case rel => exact ⟨j + 1, some j, hlt, by go_num, rfl, HB0, Go.Lib.hid (hb.out.trans (BW.out.mono hb.out.size))⟩
          case measure => simp [intOf]; omega
        · obtain ⟨x, hk, hx, hsome⟩ : ∃ x, k < l.length ∧ l[k]? = some x ∧ longE a none (l.take j) = some x := by
            rcases hbest.out with h | ⟨k', x, h, h2, h3, h4⟩
            · cases h.1
            · injection h with h
              subst h
              exact ⟨x, h2, h3, h4⟩
          obtain ⟨bl2, off2, e2, hbl2, _, q1, _⟩ := (HV.out).at_ hx
          injection e2 with e2
          injection e2 with e2 e3 _
          subst e2 e3
          have zk0 : (0 : Int) ≤ (k : Int) := by omega
          have zk1 : (k : Int) < (l.length : Int) := by omega
          have zk2 : decide ((k : Int) < 0) = false := decide_eq_false (by omega)
          have HKC := Go.Lib.hid (fun (W : World) (h : Below wr.heap.size wr W) => (⟨((hb.out.trans (h.mono hb.out.size)).cell (p := ⟨bl, off + j * 3, none⟩) hbl).trans k0, ((hb.out.trans (h.mono hb.out.size)).cell (p := ⟨bl, off + j * 3 + 1, none⟩) hbl).trans k1, ((hb.out.trans (h.mono hb.out.size)).cell (p := ⟨bl, off + k * 3 + 1, none⟩) hbl).trans q1⟩ :
            W.cell? ⟨bl, off + j * 3, none⟩ = some (.int .u32 r.p.a) ∧ W.cell? ⟨bl, off + j * 3 + 1, none⟩ = some (.int .i64 r.p.n) ∧ W.cell? ⟨bl, off + k * 3 + 1, none⟩ = some (.int .i64 x.p.n)))
          have HST2 := Go.Lib.hid (show longE a none (l.take (j + 1)) = if decide (x.p.n < r.p.n) = true then some r else some x by rw [HST.out, hsome]; rfl)
          have HXX := Go.Lib.hid hx
          clear HST hbest k0 k1 q1 hbl hbl2 hx hsome
          cases hgt : decide (x.p.n < r.p.n) with
          | true =>
            have HB0 := Go.Lib.hid (show BestAt l (longE a none (l.take (j + 1))) (some j) by
              rw [HST2.out, hgt, if_pos rfl]
              exact .inr ⟨j, r, rfl, hlt, HRR.out, rfl⟩)
            obtain ⟨⟨ra, rn⟩, rv⟩ := r
            obtain ⟨⟨xa, xn⟩, xv⟩ := x
            dsimp only at CC HKC hgt
            have zg : decide (rn > xn) = true := hgt
            clear HST2 HRR HXX
            simp only [idxV]
            go_wp2
            refine wp_region_noPanic ?_
            refine wp_region_held_drew (S := (fun w' => w'.cell? ⟨bl, off + j * 3, none⟩ = some (.int .u32 ra) ∧ w'.cell? ⟨bl, off + j * 3 + 1, none⟩ = some (.int .i64 rn) ∧ w'.cell? ⟨bl, off + k * 3 + 1, none⟩ = some (.int .i64 xn))) (by kernel_rfl) (HKC.out _ BW.out) (fun hHeld => ?_)
            refine Take.tk 0 13 hHeld ?_
            refine Take.tk 1 14 hHeld ?_
            refine Take.tk 2 15 hHeld ?_
            try simp only [Act.put, Take.nm]
            refine Take.tk 3 16 hHeld ?_
            refine Take.tk 4 17 hHeld ?_
            refine Take.tk 5 18 hHeld ?_
            try simp only [Act.put, Take.nm]
            refine Take.tk 6 19 hHeld ?_
            try simp only [Act.put, Take.nm]
            refine wpAnyH_ready (rs := [7]) (by kernel_rfl) (by simp) ?_
            refine AllReadyH.cons (o := _) (by rfl) (fun K hK => ?_) AllReadyH.nil
            go_simp
            go_at_call 29; refine (CC.out _).mono ?_; rintro e x ⟨rfl, hb⟩; replace BW := Go.Lib.hid (BW.out.trans (hb.mono BW.out.size)); clear hb
            (try go_wp2_with fail)
            refine hK.out _ _ (HKC.out _ BW.out) (fun hHeld1 => ?_)
            clear hK K
            try simp only [Act.put, Take.nm]
            refine Take.tk 8 21 hHeld1 ?_
            refine Take.tk 9 22 hHeld1 ?_
            refine Take.tk 10 23 hHeld1 ?_
            try simp only [Act.put, Take.nm]
            refine Take.tk 11 24 hHeld1 ?_
            refine Take.tk 12 25 hHeld1 ?_
            refine Take.tk 13 26 hHeld1 ?_
            try simp only [Act.put, Take.nm]
            refine Take.tk 14 27 hHeld1 ?_
            refine Take.tk 15 28 hHeld1 ?_
            refine Take.tk 16 29 hHeld1 ?_
            try simp only [Act.put, Take.nm]
            refine Take.tk 17 30 hHeld1 ?_
            refine Take.tk 18 31 hHeld1 ?_
            refine Take.tk 19 32 hHeld1 ?_
            try simp only [Act.put, Take.nm]
            refine Take.tk 20 33 hHeld1 ?_
            refine Take.tk 21 34 hHeld1 ?_
            refine Take.tk 22 35 hHeld1 ?_
            try simp only [Act.put, Take.nm]
            refine Take.tk 23 36 hHeld1 ?_
            refine Take.tk 24 37 hHeld1 ?_
            refine Take.tk 25 38 hHeld1 ?_
            try simp only [Act.put, Take.nm]
            refine Take.tk 26 39 hHeld1 ?_
            refine wpAnyH_done (by kernel_rfl) ?_ _
            refine NoPanic.normal ?_
            go_wp2
            go_roundw
            case rel => exact ⟨j + 1, some j, hlt, by go_num, rfl, HB0, Go.Lib.hid (hb.out.trans (BW.out.mono hb.out.size))⟩
            case measure => simp [intOf]; omega
          | false =>
            have HB0 := Go.Lib.hid (show BestAt l (longE a none (l.take (j + 1))) (some k) by
              rw [HST2.out, hgt, if_neg Bool.false_ne_true]
              exact .inr ⟨k, x, rfl, hk, HXX.out, rfl⟩)
            obtain ⟨⟨ra, rn⟩, rv⟩ := r
            obtain ⟨⟨xa, xn⟩, xv⟩ := x
            dsimp only at CC HKC hgt
            have zg : decide (rn > xn) = false := hgt
            clear HST2 HRR HXX
            simp only [idxV]
            go_wp2
            refine wp_region_noPanic ?_
            refine wp_region_held_drew (S := (fun w' => w'.cell? ⟨bl, off + j * 3, none⟩ = some (.int .u32 ra) ∧ w'.cell? ⟨bl, off + j * 3 + 1, none⟩ = some (.int .i64 rn) ∧ w'.cell? ⟨bl, off + k * 3 + 1, none⟩ = some (.int .i64 xn))) (by kernel_rfl) (HKC.out _ BW.out) (fun hHeld => ?_)
            refine Take.tk 0 13 hHeld ?_
            refine Take.tk 1 14 hHeld ?_
            refine Take.tk 2 15 hHeld ?_
            try simp only [Act.put, Take.nm]
            refine Take.tk 3 16 hHeld ?_
            refine Take.tk 4 17 hHeld ?_
            refine Take.tk 5 18 hHeld ?_
            try simp only [Act.put, Take.nm]
            refine Take.tk 6 19 hHeld ?_
            try simp only [Act.put, Take.nm]
            refine wpAnyH_ready (rs := [7]) (by kernel_rfl) (by simp) ?_
            refine AllReadyH.cons (o := _) (by rfl) (fun K hK => ?_) AllReadyH.nil
            go_simp
            go_at_call 29; refine (CC.out _).mono ?_; rintro e x ⟨rfl, hb⟩; replace BW := Go.Lib.hid (BW.out.trans (hb.mono BW.out.size)); clear hb
            (try go_wp2_with fail)
            refine hK.out _ _ (HKC.out _ BW.out) (fun hHeld1 => ?_)
            clear hK K
            try simp only [Act.put, Take.nm]
            refine Take.tk 8 21 hHeld1 ?_
            refine Take.tk 9 22 hHeld1 ?_
            refine Take.tk 10 23 hHeld1 ?_
            try simp only [Act.put, Take.nm]
            refine Take.tk 11 24 hHeld1 ?_
            refine Take.tk 12 25 hHeld1 ?_
            refine Take.tk 13 26 hHeld1 ?_
            try simp only [Act.put, Take.nm]
            refine Take.tk 14 27 hHeld1 ?_
            refine Take.tk 15 28 hHeld1 ?_
            refine Take.tk 16 29 hHeld1 ?_
            try simp only [Act.put, Take.nm]
            refine Take.tk 17 30 hHeld1 ?_
            refine Take.tk 18 31 hHeld1 ?_
            refine Take.tk 19 32 hHeld1 ?_
            try simp only [Act.put, Take.nm]
            refine Take.tk 20 33 hHeld1 ?_
            refine Take.tk 21 34 hHeld1 ?_
            refine Take.tk 22 35 hHeld1 ?_
            try simp only [Act.put, Take.nm]
            refine Take.tk 23 36 hHeld1 ?_
            refine Take.tk 24 37 hHeld1 ?_
            refine Take.tk 25 38 hHeld1 ?_
            try simp only [Act.put, Take.nm]
            refine Take.tk 26 39 hHeld1 ?_
            refine wpAnyH_done (by kernel_rfl) ?_ _
            refine NoPanic.normal ?_
            go_wp2
            go_roundw
            case rel => exact ⟨j + 1, some k, hlt, by go_num, rfl, HB0, Go.Lib.hid (hb.out.trans (BW.out.mono hb.out.size))⟩
            case measure => simp [intOf]; omega
    · have HJ := Go.Lib.hid (show j = l.length by omega)
      have z1 : decide ((j : Int) < (l.length : Int)) = false := decide_eq_false (by omega)
      have HE := Go.Lib.hid (show BestAt l (longE a none l) o by have h := hbest.out; rw [HJ.out, List.take_length] at h; exact h)
      generalize hT : idxV o = T at *
      have HT := Go.Lib.hid hT
      clear hT
      go_wp2
      go_ret
      exact ⟨o, by rw [HT.out]; rfl, HE.out, hb.out⟩
end Go.Proofs.Ytpcahgnibdampaa.Tri
