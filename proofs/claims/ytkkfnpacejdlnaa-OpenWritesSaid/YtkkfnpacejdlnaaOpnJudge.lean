/- The program's Judge, and the reference's. -/
import Derived.Test.YtkkfnpacejdlnaaOpnNext
import Derived.Test.YtkkfnpacejdlnaaOctBig
namespace Go.Proofs.Ytkkfnpacejdlnaa.Opn
open Go.RowKit Mem Oct Att

/-- What Judge gives. -/
def judgeN (o : Op) (an own : Nat) : No := if o.an ≠ an then ⟨2, 2, []⟩ else if o.ri = own then ⟨2, 3, []⟩ else if o.four = false then ⟨2, 7, fourB an⟩ else ⟨0, 0, []⟩
/-- A notice, and nothing else turned. -/
def GivesN (n : No) (w : World) (e : Ending) (w' : World) : Prop := ∃ v, e = .returned v ∧ Note w' v n ∧ Below w.heap.size w w'
theorem two_boxes (w : World) (x y z u a b c : Value) : Box4 ((w.alloc (.cells #[x, y, z, u] 24)).alloc (.cells #[a, b, c] 32)) w.heap.size 24 x y z u ∧
    Box3 ((w.alloc (.cells #[x, y, z, u] 24)).alloc (.cells #[a, b, c] 32)) (w.heap.size + 1) 32 a b c ∧ Below w.heap.size w ((w.alloc (.cells #[x, y, z, u] 24)).alloc (.cells #[a, b, c] 32)) := by
  have h1 := Box4.new w 24 x y z u
  have b1 : Below w.heap.size w (w.alloc (.cells #[x, y, z, u] 24)) := (Below.refl _ w).alloc (Nat.le_refl _) _
  have e1 : (w.alloc (.cells #[x, y, z, u] 24)).heap.size = w.heap.size + 1 := by simp
  have h2 := Box3.new (w.alloc (.cells #[x, y, z, u] 24)) 32 a b c
  rw [e1] at h2
  exact ⟨h1.keep ((Below.refl _ _).alloc (Nat.le_refl _) _), h2, b1.alloc b1.size _⟩
/-- Behind the store of a notice into its box. -/
theorem note_end {w W : World} {s : Int} {n k : Nat} {A : Option Addr} {d : List Nat} (hb : Below w.heap.size w W) (hU : U8s (three W (w.heap.size + 1) (.int .i64 2) (.int .i64 s) (.slice A k n)) (.slice A k n) d) (hs : (Lit.int .i64 s).wf = true) :
    GivesN ⟨2, s, d⟩ w (.returned (.agg #[.int .i64 2, .int .i64 s, .slice A k n])) (three W (w.heap.size + 1) (.int .i64 2) (.int .i64 s) (.slice A k n)) :=
  ⟨_, rfl, ⟨show (Lit.int .i64 2).wf = true by decide, hs, _, rfl, hU⟩, three_low hb _ (by omega) _ _ _⟩
set_option maxRecDepth 100000 in
set_option maxHeartbeats 2000000 in
theorem pjudge_any (o : Op) (an own : Nat) (w : World) : Calls Try.prog 16 #[opn o, .int .u32 an, .int .u32 own] w (GivesN (judgeN o an own) w) := by
  obtain ⟨oa, oh, oi, fr⟩ := o
  unfold opn judgeN
  dsimp only
  have S0 := Go.Lib.hid (two_boxes w (.int .u32 oa) (.int .i64 oh) (.int .u32 oi) (.bool fr) (.int .i64 0) (.int .i64 0) (.slice none 0 0))
  obtain ⟨c0, c1, c2, c3⟩ := S0.out.1.cells
  have CF := Go.Lib.hid fault_any
  by_cases h1 : oa = an
  case neg =>
    rw [if_pos h1]
    have y1 : ((oa : Int) != an) = true := by simp; omega
    clear h1
    go_enter Try.func16, Try.ntmps16
    go_wp2_with (go_at_call 33; refine (CF.out _ _ _ _ _).mono ?_; rintro e x ⟨rfl, hb⟩; have S1 := Go.Lib.hid (And.intro (S0.out.2.1.keep hb) (S0.out.2.2.trans (hb.mono S0.out.2.2.size))); clear hb S0; obtain ⟨d0, d1, d2⟩ := S1.out.1.cells; have ff := S1.out.1.free)
    (try simp only [Exit.inBlock, Exit.then])
    obtain ⟨r0, r1, r2⟩ := (S1.out.1.laid (.int .i64 2) (.int .i64 2) (.slice none 0 0)).cells
    unfold three at r0 r1 r2
    refine bodyPost_ret (v := .agg #[.int .i64 2, .int .i64 2, .slice none 0 0]) (by simp [results, Try.results16, go_sem, r0, r1, r2]) rfl ?_
    exact note_end S1.out.2 (U8s.nil _) (by decide)
  subst h1
  rw [if_neg (by simp)]
  by_cases h2 : oi = own
  · subst h2
    rw [if_pos rfl]
    go_enter Try.func16, Try.ntmps16
    go_wp2_with (go_at_call 33; refine (CF.out _ _ _ _ _).mono ?_; rintro e x ⟨rfl, hb⟩; have S1 := Go.Lib.hid (And.intro (S0.out.2.1.keep hb) (S0.out.2.2.trans (hb.mono S0.out.2.2.size))); clear hb S0; obtain ⟨d0, d1, d2⟩ := S1.out.1.cells; have ff := S1.out.1.free)
    (try simp only [Exit.inBlock, Exit.then])
    obtain ⟨r0, r1, r2⟩ := (S1.out.1.laid (.int .i64 2) (.int .i64 3) (.slice none 0 0)).cells
    unfold three at r0 r1 r2
    refine bodyPost_ret (v := .agg #[.int .i64 2, .int .i64 3, .slice none 0 0]) (by simp [results, Try.results16, go_sem, r0, r1, r2]) rfl ?_
    exact note_end S1.out.2 (U8s.nil _) (by decide)
  have y2 : ((oi : Int) == own) = false := by simp; omega
  rw [if_neg h2]
  clear h2
  cases fr with
  | true =>
    rw [if_neg (by simp)]
    obtain ⟨d0, d1, d2⟩ := S0.out.2.1.cells
    have ff := S0.out.2.1.free
    go_enter Try.func16, Try.ntmps16
    go_wp2
    (try simp only [Exit.inBlock, Exit.then])
    refine bodyPost_ret (v := .agg #[.int .i64 0, .int .i64 0, .slice none 0 0]) (by simp [results, Try.results16, go_sem]) rfl ?_
    exact ⟨_, rfl, ⟨show (Lit.int .i64 0).wf = true by decide, show (Lit.int .i64 0).wf = true by decide, _, rfl, U8s.nil _⟩, S0.out.2.2⟩
  | false =>
    rw [if_pos rfl]
    have C4 := Go.Lib.hid (fun W => four_any oa W)
    have HS := Go.Lib.hid (show Small (fourB oa) from Small.append (by unfold Small; decide) (big_small oa 4))
    generalize fourB oa = M at C4 HS ⊢
    go_enter Try.func16, Try.ntmps16
    go_wp2_with (first
      | (go_at_call 22; refine (C4.out _).mono ?_; rintro e x ⟨A, c, rfl, ho, hb⟩; have U := Go.Lib.hid (U8s.of_own ho HS.out); have S1 := Go.Lib.hid (And.intro (S0.out.2.1.keep hb) (S0.out.2.2.trans (hb.mono S0.out.2.2.size))); clear hb S0 ho)
      | (go_at_call 33; refine (CF.out _ _ _ _ _).mono ?_; rintro e z ⟨rfl, hb⟩; have U2 := Go.Lib.hid (U.out.keep hb); have S2 := Go.Lib.hid (And.intro (S1.out.1.keep hb) (S1.out.2.trans (hb.mono S1.out.2.size))); clear hb S1; obtain ⟨d0, d1, d2⟩ := S2.out.1.cells; have ff := S2.out.1.free))
    (try simp only [Exit.inBlock, Exit.then])
    obtain ⟨r0, r1, r2⟩ := (S2.out.1.laid (.int .i64 2) (.int .i64 7) (.slice A M.length c)).cells
    unfold three at r0 r1 r2
    refine bodyPost_ret (v := .agg #[.int .i64 2, .int .i64 7, .slice A M.length c]) (by simp [results, Try.results16, go_sem, r0, r1, r2]) rfl ?_
    have ho := three_off z (w.heap.size + 1) (.int .i64 2) (.int .i64 7) (.slice A M.length c)
    exact note_end S2.out.2 (u8_apart U2.out (S2.out.1.no8 (no8_i _) (no8_i _) (no8_s _ _ _)) ho.1 ho.2) (by decide)
set_option maxRecDepth 100000 in
set_option maxHeartbeats 2000000 in
theorem rjudge_any (o : Op) (an own : Nat) (han : an < 4294967296) (w : World) : Calls Try.prog 17 #[opn o, .int .u32 an, .int .u32 own] w (GivesN (judgeN o an own) w) := by
  obtain ⟨oa, oh, oi, fr⟩ := o
  unfold opn judgeN
  dsimp only
  have S0 := Go.Lib.hid (two_boxes w (.int .u32 oa) (.int .i64 oh) (.int .u32 oi) (.bool fr) (.int .i64 0) (.int .i64 0) (.slice none 0 0))
  have HL := Go.Lib.hid (fun a b => (two_boxes w (.int .u32 oa) (.int .i64 oh) (.int .u32 oi) (.bool fr) (.int .i64 a) (.int .i64 b) (.slice none 0 0)).2.2)
  obtain ⟨c0, c1, c2, c3⟩ := S0.out.1.cells
  obtain ⟨d0, d1, d2⟩ := S0.out.2.1.cells
  have ff := S0.out.2.1.free
  by_cases h1 : oa = an
  case neg =>
    rw [if_pos h1]
    have y1 : ((oa : Int) != an) = true := by simp; omega
    clear h1
    go_enter Try.func17, Try.ntmps17
    go_wp2
    (try simp only [Exit.inBlock, Exit.then])
    refine bodyPost_ret (v := .agg #[.int .i64 2, .int .i64 2, .slice none 0 0]) (by simp [results, Try.results17, go_sem]) rfl ?_
    exact ⟨_, rfl, ⟨show (Lit.int .i64 2).wf = true by decide, show (Lit.int .i64 2).wf = true by decide, _, rfl, U8s.nil _⟩, HL.out _ _⟩
  subst h1
  rw [if_neg (by simp)]
  by_cases h2 : oi = own
  · subst h2
    rw [if_pos rfl]
    go_enter Try.func17, Try.ntmps17
    go_wp2
    (try simp only [Exit.inBlock, Exit.then])
    refine bodyPost_ret (v := .agg #[.int .i64 2, .int .i64 3, .slice none 0 0]) (by simp [results, Try.results17, go_sem]) rfl ?_
    exact ⟨_, rfl, ⟨show (Lit.int .i64 2).wf = true by decide, show (Lit.int .i64 3).wf = true by decide, _, rfl, U8s.nil _⟩, HL.out _ _⟩
  have y2 : ((oi : Int) == own) = false := by simp; omega
  rw [if_neg h2]
  clear h2
  cases fr with
  | true =>
    rw [if_neg (by simp)]
    go_enter Try.func17, Try.ntmps17
    go_wp2
    (try simp only [Exit.inBlock, Exit.then])
    refine bodyPost_ret (v := .agg #[.int .i64 0, .int .i64 0, .slice none 0 0]) (by simp [results, Try.results17, go_sem]) rfl ?_
    exact ⟨_, rfl, ⟨show (Lit.int .i64 0).wf = true by decide, show (Lit.int .i64 0).wf = true by decide, _, rfl, U8s.nil _⟩, HL.out _ _⟩
  | false =>
    rw [if_pos rfl]
    obtain ⟨i0, E0⟩ := elem8
    have hs0 : ((w.alloc (.cells #[.int .u32 oa, .int .i64 oh, .int .u32 oi, .bool false] 24)).alloc (.cells #[.int .i64 0, .int .i64 0, .slice none 0 0] 32)).heap.size = w.heap.size + 1 + 1 := by simp
    have hl := World.ownsRow_lit (base := w.heap.size) (e := 5) (size := 1) ((w.alloc (.cells #[.int .u32 oa, .int .i64 oh, .int .u32 oi, .bool false] 24)).alloc (.cells #[.int .i64 0, .int .i64 0, .slice none 0 0] 32)) #[.int .u8 65, .int .u8 4] 2 S0.out.2.2.size (by decide) rfl
    rw [hs0] at hl
    have L0 := Go.Lib.hid hl
    have bl : Below ((w.alloc (.cells #[.int .u32 oa, .int .i64 oh, .int .u32 oi, .bool false] 24)).alloc (.cells #[.int .i64 0, .int .i64 0, .slice none 0 0] 32)).heap.size _ (((w.alloc (.cells #[.int .u32 oa, .int .i64 oh, .int .u32 oi, .bool false] 24)).alloc (.cells #[.int .i64 0, .int .i64 0, .slice none 0 0] 32)).alloc (.cells #[.int .u8 65, .int .u8 4] 5)) := (Below.refl _ _).alloc (Nat.le_refl _) _
    have S1 := Go.Lib.hid (And.intro (S0.out.2.1.keep bl) (S0.out.2.2.trans (bl.mono S0.out.2.2.size)))
    clear hl hs0 bl S0 d0 d1 d2 ff HL
    have CB := Go.Lib.hid (fun W => big_any oa 4 W (by omega) (by omega))
    have HN := Go.Lib.hid (show 2 + (big oa 4).length = 6 from by rw [big_len])
    have HM := Go.Lib.hid (show fourB oa = [65, 4] ++ big oa 4 from rfl)
    have HS := Go.Lib.hid (big_small oa 4)
    generalize fourB oa = M at HM ⊢
    generalize big oa 4 = D at CB HN HM HS

    go_enter Try.func17, Try.ntmps17
    go_wp2_with (first
      | (go_at_call 36; refine (CB.out _).mono ?_; rintro e x ⟨A, c, rfl, ho, hb⟩; have L1 := Go.Lib.hid (own_keep L0.out hb); have U1 := Go.Lib.hid (Row.of_own ho); have S2 := Go.Lib.hid (And.intro (S1.out.1.keep hb) (S1.out.2.trans (hb.mono S1.out.2.size))); clear ho hb S1)
      | (at_builtin; have h := S2.out; refine wpList_append_row rfl (.tmp 20) (.tmp 23) rfl E0 w.heap.size _ 2 _ rfl L1.out _ D.length (cells8 D) rfl U1.out (ones8 _) (by have := HN.out; unfold maxLen; omega) (by have := HN.out; omega) h.2.size 6 HN.out ?_; intro A1 c1 z hown1 hg1 hat1 hb1; have U2 := Go.Lib.hid hown1; have S3 := Go.Lib.hid (And.intro (h.1.below (fun k hk => hg1.block k (by have := h.1.lt; omega) (fun he => by have he2 : k = w.heap.size + 1 + 1 := Option.some.inj he; omega))) (h.2.trans hb1)); clear hown1 hg1 hat1 hb1 h S2; obtain ⟨d0, d1, d2⟩ := S3.out.1.cells; have ff := S3.out.1.free))
    (try simp only [Exit.inBlock, Exit.then])
    obtain ⟨r0, r1, r2⟩ := (S3.out.1.laid (.int .i64 2) (.int .i64 7) (.slice A1 6 c1)).cells
    unfold three at r0 r1 r2
    refine bodyPost_ret (v := .agg #[.int .i64 2, .int .i64 7, .slice A1 6 c1]) (by simp [results, Try.results17, go_sem, r0, r1, r2]) rfl ?_
    have ho := three_off z (w.heap.size + 1) (.int .i64 2) (.int .i64 7) (.slice A1 6 c1)
    have hU : U8s z (.slice A1 6 c1) M := by
      rw [HM.out]
      have hn : ([65, 4] ++ D).length = 6 := by have := HN.out; simp; omega
      exact U8s.of_own (base := w.heap.size) (e := 5) (by rw [hn, cells8_append]; exact U2.out) (Small.append (by unfold Small; decide) HS.out)
    exact note_end S3.out.2 (u8_apart hU (S3.out.1.no8 (no8_i _) (no8_i _) (no8_s _ _ _)) ho.1 ho.2) (by decide)
end Go.Proofs.Ytkkfnpacejdlnaa.Opn
