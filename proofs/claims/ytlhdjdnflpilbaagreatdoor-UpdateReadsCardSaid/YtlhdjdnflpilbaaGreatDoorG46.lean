/- The reference's lay: an aggregator, a path; all types together. Plain mathematics: what bytes tell, as the reference reads them. It speaks of no function of the program. -/
import Derived.Test.YtlhdjdnflpilbaaGreatDoorG44
import Derived.Test.YtlhdjdnflpilbaaGreatDoorG43
namespace Go.Proofs.YtlhdjdnflpilbaaGreatDoor.Att
open Go.RowKit Mem Segm Oct Seg Nums
set_option maxRecDepth 100000 in
set_option maxHeartbeats 4000000 in
theorem lay7 (A : Option Addr) (c : Nat) (v : List Nat) (w : World) (B N : Nat) (a : At) (hA : BoxA w B N a) (hv : U8s w (.slice A v.length c) v) (hl : v.length = 8) :
    Calls Tryz.prog 92 #[.pointer (some ⟨B, 0, none⟩), .int .i64 7, .slice A v.length c] w (LayF B N a 7 v w) := by
  obtain ⟨hok, hlt, Ap, np, cp, Ac, nc, cc, h9, hp, hc, hn⟩ := hA
  have HS := Go.Lib.hid hv.2
  have HU := Go.Lib.hid hv
  have HOK := Go.Lib.hid hok
  have HP := Go.Lib.hid hp
  have HC := Go.Lib.hid (And.intro hc hn)
  have H9 := Go.Lib.hid h9
  obtain ⟨hh, ho, hpt, hh3, hh4, hh5, hh6, hh7, hh8⟩ := a
  dsimp only at hp h9 hc hok HP HC H9 HOK
  have HV := Go.Lib.hid (val32 (HS.out.take 4) (List.length_take_le _ _))
  have HV2 := Go.Lib.hid (val32 (HS.out.drop 4) (by rw [List.length_drop]; omega))
  have CNM := Go.Lib.hid (nums_two _ v w hv hl)
  clear hv hp hc hn h9 hok hl
  go_enter Tryz.func92, Tryz.ntmps92
  go_wp2_with (go_at_call 112; first | (refine (CNM.out).mono ?_; rintro e x ⟨g, cn, rfl, hcn, hg, n0, n1, hb⟩; have S1 := Go.Lib.hid ((show LaSt w B (.int .i64 hh) (.int .i64 ho) (.slice Ap np cp) (.int .u32 hh3) (.int .u32 hh4) (.int .u32 hh5) (.int .u32 hh6) (.int .u32 hh7) (.slice Ac nc cc) w from ⟨H9.out, Only.refl _ _⟩).below hb); have HG := Go.Lib.hid hg; have hgB : g ≠ B := far_of hlt hg; clear hb hg) | (trace "FELL N"; trace_state; fail_if_success skip))
  have SD := Go.Lib.hid (S1.out.below (Below.refl _ _).drew)
  replace n0 := keeps (Below.refl x.heap.size x).drew n0
  replace n1 := keeps (Below.refl x.heap.size x).drew n1
  obtain ⟨c0, c1, c2, c3, c4, c5, c6, c7, c8⟩ := SD.out.b9.cells
  have fB := SD.out.b9.free
  obtain ⟨b0, b1, b2, b3, b4, b5, b6, b7, b8⟩ := S1.out.b9.cells
  have gB := S1.out.b9.free
  go_region
  have S2 := Go.Lib.hid (((S1.out.set6 (.int .u32 (val (v.take 4)))).set7 (.int .u32 (val (v.drop 4)))).below (Below.refl _ _).drew)
  go_wp2
  go_ret
  refine ⟨rfl, S2.out.on, ⟨_, _, _, _, _, _, _, _, S2.out.b9⟩, fun _ => ?_⟩
  exact ⟨⟨HOK.out.1, HOK.out.2.1, HOK.out.2.2.1, HOK.out.2.2.2.1, HOK.out.2.2.2.2.1, HV.out, HV2.out⟩, ⟨hlt.1, Nat.le_trans hlt.2 S2.out.on.size⟩, Ap, np, cp, Ac, nc, cc, S2.out.b9, segs_on HP.out S2.out.on (fun k e => by subst e; exact hlt.1), u32_on HC.out.1 HC.out.2 S2.out.on (fun k e => by subst e; exact hlt.1), HC.out.2⟩
set_option maxRecDepth 100000 in
set_option maxHeartbeats 4000000 in
theorem lay2 (A : Option Addr) (c : Nat) (v : List Nat) (w : World) (B N : Nat) (a : At) (hA : BoxA w B N a) (hv : U8s w (.slice A v.length c) v) (hl : v.length ≤ 1600) :
    Calls Tryz.prog 92 #[.pointer (some ⟨B, 0, none⟩), .int .i64 2, .slice A v.length c] w (LayF B N a 2 v w) := by
  obtain ⟨hok, hlt, Ap, np, cp, Ac, nc, cc, h9, hp, hc, hn⟩ := hA
  have HS := Go.Lib.hid hv.2
  have HU := Go.Lib.hid hv
  have HOK := Go.Lib.hid hok
  have HP := Go.Lib.hid hp
  have HC := Go.Lib.hid (And.intro hc hn)
  have H9 := Go.Lib.hid h9
  obtain ⟨hh, ho, hpt, hh3, hh4, hh5, hh6, hh7, hh8⟩ := a
  dsimp only at hp h9 hc hok HP HC H9 HOK
  have CNM := Go.Lib.hid (nums_any _ v w hv (by omega))
  have CP := Go.Lib.hid (fun (W : World) (h : Below w.heap.size w W) => refPath_any _ v W (HU.out.keep h) (by omega))
  unfold PathF at CP
  cases hp2 : pathIs v with
  | none =>
    have HE := Go.Lib.hid (show fillR 2 v = 11 by simp [fillR, hp2])
    rw [hp2] at CP
    have CM := Go.Lib.hid (fun (v' : Value) (W : World) (h : Segs W v' []) => norm_anyF v' [] W h (by decide) (fun s hs => by cases hs))
    clear hv hp hc hn h9 hok hl hp2
    unfold LayF
    rw [HE.out]
    go_enter Tryz.func92, Tryz.ntmps92
    go_wp2_with (first
      | (go_at_call 112; first | (refine (CNM.out).mono ?_; rintro e x ⟨An, nn, cn, rfl, hU, hN, hb⟩; have S1 := Go.Lib.hid ((show LaSt w B (.int .i64 hh) (.int .i64 ho) (.slice Ap np cp) (.int .u32 hh3) (.int .u32 hh4) (.int .u32 hh5) (.int .u32 hh6) (.int .u32 hh7) (.slice Ac nc cc) w from ⟨H9.out, Only.refl _ _⟩).below hb); have HN := Go.Lib.hid (And.intro hU hN); have BX := Go.Lib.hid hb; clear hb hU hN; obtain ⟨c0, c1, c2, c3, c4, c5, c6, c7, c8⟩ := S1.out.b9.cells; have fB := S1.out.b9.free) | (trace "FELL N"; trace_state; fail_if_success skip))
      | (go_at_call 113; first | (have h := BX.out; refine (CP.out _ h).mono ?_; rintro e y ⟨hb2, rfl⟩; have S2 := Go.Lib.hid (S1.out.below hb2); have BY := Go.Lib.hid (h.trans (hb2.mono h.size)); clear hb2 h) | (trace "FELL P"; trace_state; fail_if_success skip))
      | (go_at_call 102; first | (refine (CM.out _ _ (show Segs _ (.slice none 0 0) [] from ⟨[], Row.nil _ 2, Nums32.nil _⟩)).mono ?_; rintro e z ⟨vz, rfl, hz, hb3⟩; obtain ⟨az, cz, rfl⟩ := hz.form; have HZ := Go.Lib.hid (hz.lower (Nat.le_trans hlt.2 BY.out.size) (Nat.le_trans hlt.2 BY.out.size)); have S3 := Go.Lib.hid (S2.out.below hb3); clear hb3 hz; obtain ⟨c0, c1, c2, c3, c4, c5, c6, c7, c8⟩ := S3.out.b9.cells; have fB := S3.out.b9.free; have S4 := Go.Lib.hid (S3.out.set2 (.slice az 0 cz)); obtain ⟨d0, d1, d2, d3, d4, d5, d6, d7, d8⟩ := S4.out.b9.cells) | (trace "FELL M"; trace_state; fail_if_success skip)))
    go_ret
    refine ⟨rfl, S4.out.on, ⟨_, _, _, _, _, _, _, _, S4.out.b9⟩, fun hz => ?_⟩
    cases hz
  | some p =>
    obtain ⟨hpl, hpf⟩ := pathIs_len HS.out hp2
    have HEQ := Go.Lib.hid (show fillR 2 v = if waysP (normS p) then 0 else 11 by simp [fillR, hp2])
    have HPV := Go.Lib.hid (show (pathIs v).getD [] = p by rw [hp2]; rfl)
    have hln := lens_norm p
    rw [hp2] at CP
    have CM := Go.Lib.hid (fun (v' : Value) (W : World) (h : Segs W v' p) => norm_anyF v' p W h (by rw [bulk_is]; omega) (fun s hs => Nat.le_trans (hpf s hs) (by decide)))
    have CW := Go.Lib.hid (fun (v' : Value) (W : World) (h : Segs W v' (normS p)) => refWays8 v' (normS p) W h (by omega))
    clear hv hp hc hn h9 hok hl hp2 hln hpl hpf
    unfold LayF
    rw [HEQ.out]
    cases hw : waysP (normS p) with
    | false =>
      rw [hw] at CW
      rw [if_neg (by decide)]
      clear hw HEQ
      go_enter Tryz.func92, Tryz.ntmps92
      go_wp2_with (first
        | (go_at_call 112; first | (refine (CNM.out).mono ?_; rintro e x ⟨An, nn, cn, rfl, hU, hN, hb⟩; have S1 := Go.Lib.hid ((show LaSt w B (.int .i64 hh) (.int .i64 ho) (.slice Ap np cp) (.int .u32 hh3) (.int .u32 hh4) (.int .u32 hh5) (.int .u32 hh6) (.int .u32 hh7) (.slice Ac nc cc) w from ⟨H9.out, Only.refl _ _⟩).below hb); have HN := Go.Lib.hid (And.intro hU hN); have BX := Go.Lib.hid hb; clear hb hU hN; obtain ⟨c0, c1, c2, c3, c4, c5, c6, c7, c8⟩ := S1.out.b9.cells; have fB := S1.out.b9.free) | (trace "FELL N"; trace_state; fail_if_success skip))
        | (go_at_call 113; first | (have h := BX.out; refine (CP.out _ h).mono ?_; rintro e y ⟨hb2, vq, rfl, hq⟩; obtain ⟨aq, cq, rfl⟩ := hq.form; have HQ := Go.Lib.hid hq.segs; clear hq; have S2 := Go.Lib.hid (S1.out.below hb2); have BY := Go.Lib.hid (h.trans (hb2.mono h.size)); clear hb2 h) | (trace "FELL P"; trace_state; fail_if_success skip))
        | (go_at_call 102; first | (refine (CM.out _ _ HQ.out).mono ?_; rintro e z ⟨vz, rfl, hz, hb3⟩; obtain ⟨az, cz, rfl⟩ := hz.form; have HZ := Go.Lib.hid (hz.lower (Nat.le_trans hlt.2 BY.out.size) (Nat.le_trans hlt.2 BY.out.size)); have S3 := Go.Lib.hid (S2.out.below hb3); clear hb3 hz; obtain ⟨c0, c1, c2, c3, c4, c5, c6, c7, c8⟩ := S3.out.b9.cells; have fB := S3.out.b9.free; have S4 := Go.Lib.hid (S3.out.set2 (.slice az (normS p).length cz)); obtain ⟨d0, d1, d2, d3, d4, d5, d6, d7, d8⟩ := S4.out.b9.cells) | (trace "FELL M"; trace_state; fail_if_success skip))
        | (go_at_call 77; first | (refine (CW.out _ _ (segs_off HZ.out (off_set (B := B) (i := 2) (.slice az (normS p).length cz) hlt.1) (by simp)).segs).mono ?_; rintro e u ⟨rfl, hb4⟩; have S5 := Go.Lib.hid (S4.out.below hb4); have HZ5 := Go.Lib.hid ((segs_off HZ.out (off_set (B := B) (i := 2) (.slice az (normS p).length cz) hlt.1) (by simp)).keep hb4); clear hb4) | (trace "FELL W"; trace_state; fail_if_success skip)))
      go_ret
      refine ⟨rfl, S5.out.on, ⟨_, _, _, _, _, _, _, _, S5.out.b9⟩, fun hz => ?_⟩
      cases hz
    | true =>
      rw [hw] at CW
      rw [if_pos (by decide)]
      clear hw HEQ
      go_enter Tryz.func92, Tryz.ntmps92
      go_wp2_with (first
        | (go_at_call 112; first | (refine (CNM.out).mono ?_; rintro e x ⟨An, nn, cn, rfl, hU, hN, hb⟩; have S1 := Go.Lib.hid ((show LaSt w B (.int .i64 hh) (.int .i64 ho) (.slice Ap np cp) (.int .u32 hh3) (.int .u32 hh4) (.int .u32 hh5) (.int .u32 hh6) (.int .u32 hh7) (.slice Ac nc cc) w from ⟨H9.out, Only.refl _ _⟩).below hb); have HN := Go.Lib.hid (And.intro hU hN); have BX := Go.Lib.hid hb; clear hb hU hN; obtain ⟨c0, c1, c2, c3, c4, c5, c6, c7, c8⟩ := S1.out.b9.cells; have fB := S1.out.b9.free) | (trace "FELL N"; trace_state; fail_if_success skip))
        | (go_at_call 113; first | (have h := BX.out; refine (CP.out _ h).mono ?_; rintro e y ⟨hb2, vq, rfl, hq⟩; obtain ⟨aq, cq, rfl⟩ := hq.form; have HQ := Go.Lib.hid hq.segs; clear hq; have S2 := Go.Lib.hid (S1.out.below hb2); have BY := Go.Lib.hid (h.trans (hb2.mono h.size)); clear hb2 h) | (trace "FELL P"; trace_state; fail_if_success skip))
        | (go_at_call 102; first | (refine (CM.out _ _ HQ.out).mono ?_; rintro e z ⟨vz, rfl, hz, hb3⟩; obtain ⟨az, cz, rfl⟩ := hz.form; have HZ := Go.Lib.hid (hz.lower (Nat.le_trans hlt.2 BY.out.size) (Nat.le_trans hlt.2 BY.out.size)); have S3 := Go.Lib.hid (S2.out.below hb3); clear hb3 hz; obtain ⟨c0, c1, c2, c3, c4, c5, c6, c7, c8⟩ := S3.out.b9.cells; have fB := S3.out.b9.free; have S4 := Go.Lib.hid (S3.out.set2 (.slice az (normS p).length cz)); obtain ⟨d0, d1, d2, d3, d4, d5, d6, d7, d8⟩ := S4.out.b9.cells) | (trace "FELL M"; trace_state; fail_if_success skip))
        | (go_at_call 77; first | (refine (CW.out _ _ (segs_off HZ.out (off_set (B := B) (i := 2) (.slice az (normS p).length cz) hlt.1) (by simp)).segs).mono ?_; rintro e u ⟨rfl, hb4⟩; have S5 := Go.Lib.hid (S4.out.below hb4); have HZ5 := Go.Lib.hid ((segs_off HZ.out (off_set (B := B) (i := 2) (.slice az (normS p).length cz) hlt.1) (by simp)).keep hb4); clear hb4) | (trace "FELL W"; trace_state; fail_if_success skip)))
      go_ret
      refine ⟨rfl, S5.out.on, ⟨_, _, _, _, _, _, _, _, S5.out.b9⟩, fun hz => ?_⟩
      refine ⟨HOK.out, ⟨hlt.1, Nat.le_trans hlt.2 S5.out.on.size⟩, az, _, cz, Ac, nc, cc, S5.out.b9, ?_, u32_on HC.out.1 HC.out.2 S5.out.on (fun k e => by subst e; exact hlt.1), HC.out.2⟩
      show OwnSegsF 117 N N _ _ (normS ((pathIs v).getD []))
      rw [HPV.out]
      exact HZ5.out
theorem lay_any (k : Nat) (A : Option Addr) (c : Nat) (v : List Nat) (w : World) (B N : Nat) (a : At) (hA : BoxA w B N a) (hv : U8s w (.slice A v.length c) v) (h1 : 1 ≤ k) (h8 : k ≤ 8) (hl : longB k v.length = true) (hm : v.length ≤ 1600) :
    Calls Tryz.prog 92 #[.pointer (some ⟨B, 0, none⟩), .int .i64 k, .slice A v.length c] w (LayF B N a k v w) := by
  have hk : k = 1 ∨ k = 2 ∨ k = 3 ∨ k = 4 ∨ k = 5 ∨ k = 6 ∨ k = 7 ∨ k = 8 := by omega
  rcases hk with rfl | rfl | rfl | rfl | rfl | rfl | rfl | rfl
  · exact lay1 A c v w B N a hA hv (by simpa [longB] using hl)
  · exact lay2 A c v w B N a hA hv hm
  · exact lay3 A c v w B N a hA hv (by simpa [longB] using hl)
  · exact lay4 A c v w B N a hA hv (by simpa [longB] using hl)
  · exact lay5 A c v w B N a hA hv (by simpa [longB] using hl)
  · exact lay6 A c v w B N a hA hv (by omega)
  · exact lay7 A c v w B N a hA hv (by simpa [longB] using hl)
  · exact lay8 A c v w B N a hA hv (by omega)
end Go.Proofs.YtlhdjdnflpilbaaGreatDoor.Att
namespace Go.Proofs.YtlhdjdnflpilbaaGreatDoor.Att
open Segm Rise Oct
def nrm (a : At) : At := ⟨a.has, a.origin, normS a.path, a.hop, a.med, a.pref, a.aas, a.aid, a.comms⟩
theorem normA_nrm (a : At) : normA (nrm a) = normA a := by
  unfold normA nrm
  dsimp only
  rw [normS_twice]
theorem nrm_zero : nrm zeroA = zeroA := rfl
theorem nrm_lay {a : At} {k : Nat} {v : List Nat} (hk : ¬ (k < 1 ∨ 8 < k)) : putHas (layR (nrm a) k v) (a.has + 2 ^ k) = nrm (layA a k v) := by
  unfold layA
  rw [if_neg hk]
  unfold putHas layR nrm
  dsimp only
  by_cases h2 : k = 2
  · rw [if_pos h2, if_pos h2]
  · rw [if_neg h2, if_neg h2]
theorem norm_len (p : List Piece) : (normS p).length ≤ bulk p := by
  induction hn : p.length generalizing p with
  | zero => rw [List.length_eq_zero_iff.1 hn]; exact Nat.zero_le _
  | succ n ih =>
    rcases List.eq_nil_or_concat p with rfl | ⟨f, s, rfl⟩
    · exact Nat.zero_le _
    · rw [List.concat_eq_append] at *
      have h1 := ih f (by simpa using hn)
      rw [normS_snoc, bulk_append]
      have h2 := normOne_len (normS f) s
      have e : bulk [s] = s.2.length + 1 := by simp [bulk]
      omega
theorem putsS_fit {m : Nat} (hm : 255 ≤ m) : ∀ (l : List Nat) (p : List Piece), FitS m p → FitS m (putsS p l)
  | [], _, h => h
  | n :: l, p, h => putsS_fit hm l (putS p n) (putS_fit n hm h)
theorem norm_fit (p : List Piece) (h : FitS 255 p) : FitS 255 (normS p) := by
  induction hn : p.length generalizing p with
  | zero => rw [List.length_eq_zero_iff.1 hn]; exact fun s hs => by cases hs
  | succ n ih =>
    rcases List.eq_nil_or_concat p with rfl | ⟨f, s, rfl⟩
    · exact fun s hs => by cases hs
    · rw [List.concat_eq_append] at *
      have h1 := ih f (fun s hs => h s (by simp [hs])) (by simpa using hn)
      rw [normS_snoc]
      unfold normOne
      split
      · exact putsS_fit (Nat.le_refl _) _ _ h1
      · split
        · intro s' hs'
          rcases List.mem_append.1 hs' with h3 | h3
          · exact h1 s' h3
          · rw [List.mem_singleton.1 h3]
            exact Nat.le_trans (setOf_len s.2) (h s (by simp))
        · exact h1
structure FineR (seen : List Nat) (a : At) : Prop where
  fine : Fine seen a
  bk : bulk a.path ≤ 4000
  fit : FitS 255 a.path
  cm : a.comms.length ≤ 400
theorem fineR_zero : FineR [] zeroA := ⟨fine_zero, by decide, (fun s hs => by cases hs), by decide⟩
theorem FineR.lay {seen : List Nat} {a : At} (h : FineR seen a) {f k : Nat} {v : List Nat} (hs : Small v) (hl : v.length ≤ 1600) (hk : k ∉ seen) (hsub : subOf f k v = 0) : FineR (k :: seen) (layA a k v) := by
  refine ⟨h.fine.lay hs (by omega) hk hsub, ?_, ?_, ?_⟩
  all_goals
    by_cases hu : k < 1 ∨ 8 < k
    · rw [show layA a k v = a by unfold layA; rw [if_pos hu]]
      first | exact h.bk | exact h.fit | exact h.cm
    · have ep : (layA a k v).path = if k = 2 then (pathIs v).getD [] else a.path := by unfold layA; rw [if_neg hu]
      have ec : (layA a k v).comms = if k = 8 then quads v else a.comms := by unfold layA; rw [if_neg hu]
      have hq : bulk ((pathIs v).getD []) ≤ 4000 ∧ FitS 255 ((pathIs v).getD []) := by
        cases hh : pathIs v with
        | none => exact ⟨Nat.zero_le _, fun s hs => by cases hs⟩
        | some p =>
          obtain ⟨h1, h2⟩ := pathIs_len hs hh
          exact ⟨by show bulk p ≤ 4000; rw [bulk_is]; omega, h2⟩
      first
        | (rw [ep]; split <;> first | exact hq.1 | exact h.bk)
        | (rw [ep]; split <;> first | exact hq.2 | exact h.fit)
        | (rw [ec]; split <;> first | (unfold quads; rw [quadsN_len]; omega) | exact h.cm)
theorem FineR.norm {seen : List Nat} {a : At} (h : FineR seen a) : bulk (nrm a).path ≤ 50000 ∧ FitS 1000 (nrm a).path ∧ (nrm a).comms.length ≤ 1000 := by
  have h1 := norm_len a.path
  have h2 := lens_norm a.path
  have h3 := h.bk
  refine ⟨?_, fun s hs => Nat.le_trans (norm_fit a.path h.fit s hs) (by decide), Nat.le_trans h.cm (by decide)⟩
  show bulk (normS a.path) ≤ 50000
  rw [bulk_is] at h1 h3 ⊢
  omega
theorem fillR_is {k : Nat} {v : List Nat} (hs : Small v) (hl : v.length ≤ 1600) : fillR k v = fillN k v := by
  unfold fillR fillN
  by_cases h1 : k = 1
  · rw [if_pos h1, if_pos h1]
  · rw [if_neg h1, if_neg h1]
    by_cases h2 : k = 2
    · rw [if_pos h2, if_pos h2]
      cases hp : pathIs v with
      | none => rfl
      | some p =>
        dsimp only
        obtain ⟨h3, _⟩ := pathIs_len hs hp
        have h4 := lens_norm p
        unfold waysP
        rw [decide_eq_true (show lens (normS p) ≤ 2000 by omega), decide_eq_true (show lens p ≤ 2000 by omega)]
    · rw [if_neg h2, if_neg h2]
def hdN (f : Nat) : Nat := if f / 16 % 2 = 1 then 4 else 3
def lenN (b : List Nat) (j : Nat) (hd : Nat) : Nat := val ((b.drop (j + 2)).take (hd - 2))
theorem drop_four {b : List Nat} {j : Nat} (h : j + 4 ≤ b.length) : ∃ n1 n0, b.drop (j + 2) = n1 :: n0 :: b.drop (j + 4) := by
  refine ⟨b[j + 2], b[j + 3], ?_⟩
  rw [List.drop_eq_getElem_cons (show j + 2 < b.length by omega), List.drop_eq_getElem_cons (show j + 2 + 1 < b.length by omega)]
theorem drop_three {b : List Nat} {j : Nat} (h : j + 3 ≤ b.length) : ∃ n0, b.drop (j + 2) = n0 :: b.drop (j + 3) := by
  refine ⟨b[j + 2], ?_⟩
  rw [List.drop_eq_getElem_cons (show j + 2 < b.length by omega)]
theorem item_at {b : List Nat} {j f k : Nat} (hs : Small b) (hf : b[j]? = some f) (hk : b[j + 1]? = some k) :
    (b.length < j + hdN f → itemOf (b.drop j) = none) ∧ (j + hdN f ≤ b.length → lenN b j (hdN f) < 65536 ∧
      (b.length < j + hdN f + lenN b j (hdN f) → itemOf (b.drop j) = none) ∧
      (j + hdN f + lenN b j (hdN f) ≤ b.length → itemOf (b.drop j) = some ⟨f, k, (b.drop (j + hdN f)).take (lenN b j (hdN f)), b.drop (j + hdN f + lenN b j (hdN f))⟩ ∧
        (b.drop j).take (hdN f + lenN b j (hdN f)) = itemB f k ((b.drop (j + hdN f)).take (lenN b j (hdN f))))) := by
  have hd := drop_two hf hk
  have hlt : j + 1 < b.length := (List.getElem?_eq_some_iff.1 hk).1
  rw [hd]
  unfold hdN
  by_cases hl : f / 16 % 2 = 1
  · rw [if_pos hl]
    constructor
    · intro h
      unfold itemOf
      dsimp only
      rw [if_pos hl]
      have hlen : (b.drop (j + 2)).length < 2 := by rw [List.length_drop]; omega
      match hq : b.drop (j + 2), hlen with
      | [], _ => rfl
      | [_], _ => rfl
    · intro h
      obtain ⟨n1, n0, e⟩ := drop_four h
      have s1 : n1 < 256 := (hs.drop (j + 2)) n1 (by rw [e]; simp)
      have s0 : n0 < 256 := (hs.drop (j + 2)) n0 (by rw [e]; simp)
      have ev : lenN b j 4 = n1 * 256 + n0 := by
        unfold lenN
        rw [e]
        show (0 * 256 + n1) * 256 + n0 = _
        omega
      rw [ev]
      have hlen : (b.drop (j + 4)).length = b.length - (j + 4) := List.length_drop
      refine ⟨by omega, fun h2 => ?_, fun h2 => ?_⟩
      · rw [e]
        unfold itemOf
        dsimp only
        rw [if_pos hl, if_neg (by omega)]
      · rw [e]
        constructor
        · unfold itemOf
          dsimp only
          rw [if_pos hl, if_pos (by omega), List.drop_drop]
        · unfold itemB
          rw [if_pos hl, List.length_take, Nat.min_eq_left (by omega), big2]
          rw [show 4 + (n1 * 256 + n0) = (n1 * 256 + n0) + 1 + 1 + 1 + 1 by omega]
          simp only [List.take_succ_cons, List.cons_append, List.nil_append]
          rw [show (n1 * 256 + n0) / 256 % 256 = n1 by omega, show (n1 * 256 + n0) % 256 = n0 by omega]
  · rw [if_neg hl]
    constructor
    · intro h
      unfold itemOf
      dsimp only
      rw [if_neg hl]
      have hlen : (b.drop (j + 2)).length < 1 := by rw [List.length_drop]; omega
      match hq : b.drop (j + 2), hlen with
      | [], _ => rfl
    · intro h
      obtain ⟨n0, e⟩ := drop_three h
      have s0 : n0 < 256 := (hs.drop (j + 2)) n0 (by rw [e]; simp)
      have ev : lenN b j 3 = n0 := by
        unfold lenN
        rw [e]
        show 0 * 256 + n0 = _
        omega
      rw [ev]
      have hlen : (b.drop (j + 3)).length = b.length - (j + 3) := List.length_drop
      refine ⟨by omega, fun h2 => ?_, fun h2 => ?_⟩
      · rw [e]
        unfold itemOf
        dsimp only
        rw [if_neg hl, if_neg (by omega)]
      · rw [e]
        constructor
        · unfold itemOf
          dsimp only
          rw [if_neg hl, if_pos (by omega), List.drop_drop]
        · unfold itemB
          rw [if_neg hl, List.length_take, Nat.min_eq_left (by omega)]
          rw [show 3 + n0 = n0 + 1 + 1 + 1 by omega]
          simp only [List.take_succ_cons]
theorem own_bit : ∀ f : Nat, f < 256 → (if f / 16 % 2 = 1 then f - 16 else f) / 32 % 2 = f / 32 % 2 := by decide +kernel
def o1N (f : Nat) : Nat := if f / 16 % 2 = 1 then f - 16 else f
theorem ownF_is {f k : Nat} (hf : f < 256) : ownF f k = if 7 ≤ k ∧ o1N f / 32 % 2 = 1 then o1N f - 32 else o1N f := by
  unfold ownF o1N
  rw [own_bit f hf]
  by_cases h : 7 ≤ k ∧ f / 32 % 2 = 1
  · rw [if_pos h, if_pos h]
  · rw [if_neg h, if_neg h]; omega
theorem o1N_lt {f : Nat} (hf : f < 256) : o1N f < 256 := by unfold o1N; split <;> omega
end Go.Proofs.YtlhdjdnflpilbaaGreatDoor.Att
