/- OctetWrites: the law's walk where Sized takes the bytes. -/
import Derived.Test.YtkomelckmhnpeaaOctWritesMath
namespace Go.Proofs.Ytkomelckmhnpeaa.Oct
open Go.RowKit Mem Ahead

attribute [local go_sem ↓] Go.wp_at_zero Go.wp_at_succ
set_option maxRecDepth 100000 in
set_option maxHeartbeats 16000000 in
theorem writes_ok (n0 n1 n2 long : Int) (v : Value) (l0 : List Nat) (w : World) (hv : U8s w v l0) (hok : (l0.take 300).length ≤ 255) :
    Calls Try.prog 4 #[.agg #[.int .i64 n0, .int .i64 n1, .int .i64 n2], v, .int .i64 long] w (Tells (.bool true) w) := by
  obtain ⟨i0, E0⟩ := elem8
  have hb0 : Below w.heap.size w (w.alloc (.cells #[.int .i64 n0, .int .i64 n1, .int .i64 n2] 37)) := (Below.refl _ w).alloc (Nat.le_refl _) _
  have hl3 : (l0.take 300).length ≤ 300 := by rw [List.length_take]; omega
  have hls : Small (l0.take 300) := hv.2.take 300
  have C1 := Go.Lib.hid (show Calls Try.prog 7 #[v, .int .i64 300] _ _ from bytes_any v l0 300 _ (hv.keep hb0) (by decide))
  have HB0 := Go.Lib.hid hb0
  have HC0 := Go.Lib.hid (fun (W : World) (h : Below (w.alloc (.cells #[.int .i64 n0, .int .i64 n1, .int .i64 n2] 37)).heap.size (w.alloc (.cells #[.int .i64 n0, .int .i64 n1, .int .i64 n2] 37)) W) => (⟨(h.cell (p := ⟨w.heap.size, 0, none⟩) (by simp)).trans (by simp), (h.cell (p := ⟨w.heap.size, 1, none⟩) (by simp)).trans (by simp), (h.cell (p := ⟨w.heap.size, 2, none⟩) (by simp)).trans (by simp)⟩ : W.cell? ⟨w.heap.size, 0, none⟩ = some (.int .i64 n0) ∧ W.cell? ⟨w.heap.size, 1, none⟩ = some (.int .i64 n1) ∧ W.cell? ⟨w.heap.size, 2, none⟩ = some (.int .i64 n2)))
  obtain ⟨l, hl⟩ : ∃ l, l = l0.take 300 := ⟨_, rfl⟩
  rw [← hl] at C1 hls hl3 hok
  have HLS := Go.Lib.hid hls
  have HT := Go.Lib.hid (List.take_of_length_le hl3)
  clear hv hb0 hl hls
  go_enter Try.func4, Try.ntmps4
  go_wp2_with (go_at_call 7; refine C1.out.mono ?_; rintro e wb ⟨Ab, cb, rfl, hob, hbb⟩; have HOB := Go.Lib.hid hob; have HBB := Go.Lib.hid hbb; clear hob hbb)
  clear C1
  have hz := wr_zero wb (base := wb.heap.size) (Nat.le_refl _)
  have e0 : (wb.alloc (.cells #[.slice none 0 0] 40)).heap.size = wb.heap.size + 1 := by simp
  have hbz : Below wb.heap.size wb ((wb.alloc (.cells #[.slice none 0 0] 40)).alloc (.cells #[] 5)) := ((Below.refl _ wb).alloc (Nat.le_refl _) _).alloc (by rw [e0]; omega) _
  have hs0 : St wb.heap.size (.pointer (some ⟨wb.heap.size, 0, none⟩)) [] (fun k => k = wb.heap.size) (.slice (some ⟨wb.heap.size + 1, 0, none⟩) 0 0) [] ((wb.alloc (.cells #[.slice none 0 0] 40)).alloc (.cells #[] 5)) :=
    ⟨hz.below ((Below.refl _ _).alloc (Nat.le_refl _) _), own_blk (by omega) (by rw [← e0]; exact heap_alloc_new _ _), small_nil, fun g hg hf => by
      have hg2 : wb.heap.size + 1 = g := by simpa [Value.ownBlock] using hg
      have hf2 : g = wb.heap.size := hf
      omega⟩
  obtain ⟨W3, hW3⟩ : ∃ W3, W3 = (wb.alloc (.cells #[.slice none 0 0] 40)).alloc (.cells #[] 5) := ⟨_, rfl⟩
  rw [← hW3] at hbz hs0 ⊢
  clear hW3 hz e0
  have BW := Go.Lib.hid (hbz.trans ((Below.refl W3.heap.size W3).drew.mono hbz.size))
  have S := Go.Lib.hid (hs0.below ((Below.refl W3.heap.size W3).drew))
  clear hbz hs0
  have HKC := Go.Lib.hid (fun (W : World) (h : Below wb.heap.size wb W) => HC0.out W (HBB.out.trans (h.mono HBB.out.size)))
  have HUB := Go.Lib.hid (fun (W : World) (h : Below wb.heap.size wb W) => (U8s.of_own HOB.out HLS.out).keep h)
  have HLT := Go.Lib.hid (fun g (hg : (Value.slice Ab l.length cb).ownBlock = some g) => (HOB.out.lt g hg).2)
  have HEND := Go.Lib.hid (fun (W : World) (h : Below wb.heap.size wb W) => HB0.out.trans ((HBB.out.trans (h.mono HBB.out.size)).mono HB0.out.size))
  have k3 := HKC.out _ BW.out
  have CW8 := Go.Lib.hid (fun (F : Nat → Prop) (W : World) (h : Wr W wb.heap.size (.pointer (some ⟨wb.heap.size, 0, none⟩)) [] F) (hs : wb.heap.size ≤ W.heap.size) => show Calls Try.prog 19 #[(.pointer (some ⟨wb.heap.size, 0, none⟩)), .int .i64 n0] W (AddF wb.heap.size (.pointer (some ⟨wb.heap.size, 0, none⟩)) (.pointer (some ⟨wb.heap.size, 0, none⟩)) (big (u64 n0) 1) F W) from by
    have h1 := w8_put (.pointer (some ⟨wb.heap.size, 0, none⟩)) wb.heap.size [] F n0 W h (by decide) hs
    rwa [put1] at h1)
  have CW16 := Go.Lib.hid (fun (F : Nat → Prop) (W : World) (h : Wr W wb.heap.size (.pointer (some ⟨wb.heap.size, 0, none⟩)) (big (u64 n0) 1) F) (hs : wb.heap.size ≤ W.heap.size) => show Calls Try.prog 20 #[(.pointer (some ⟨wb.heap.size, 0, none⟩)), .int .i64 n1] W (AddF wb.heap.size (.pointer (some ⟨wb.heap.size, 0, none⟩)) (.pointer (some ⟨wb.heap.size, 0, none⟩)) (big (u64 n0) 1 ++ big (u64 n1) 2) F W) from by
    have h1 := w16_put (.pointer (some ⟨wb.heap.size, 0, none⟩)) wb.heap.size _ F n1 W h (by rw [big_len]; decide) hs
    rwa [put2] at h1)
  have CW32 := Go.Lib.hid (fun (F : Nat → Prop) (W : World) (h : Wr W wb.heap.size (.pointer (some ⟨wb.heap.size, 0, none⟩)) (big (u64 n0) 1 ++ big (u64 n1) 2) F) (hs : wb.heap.size ≤ W.heap.size) => show Calls Try.prog 21 #[(.pointer (some ⟨wb.heap.size, 0, none⟩)), .int .u32 (u32 n2 : Nat)] W (AddF wb.heap.size (.pointer (some ⟨wb.heap.size, 0, none⟩)) (.pointer (some ⟨wb.heap.size, 0, none⟩)) ((nums n0 n1 n2)) F W) from by
    have h1 := w32_put (.pointer (some ⟨wb.heap.size, 0, none⟩)) wb.heap.size _ F (u32 n2) W h (by simp [big_len]) hs
    rwa [put4, big_u32] at h1)
  have w32 := wrap_u32 n2
  go_region_held3 (fun w' => w'.cell? ⟨w.heap.size, 0, none⟩ = some (.int .i64 n0) ∧ w'.cell? ⟨w.heap.size, 1, none⟩ = some (.int .i64 n1) ∧ w'.cell? ⟨w.heap.size, 2, none⟩ = some (.int .i64 n2)) (assumption) (first
    | (go_at_call 19; have h := S.out.wr; refine (CW8.out _ _ h S.out.le).mono ?_; rintro e w4 ⟨F4, rfl, hz, ho, hg⟩; replace BW := Go.Lib.hid (BW.out.trans (S.out.only ho)); replace S := Go.Lib.hid (S.out.wrote hz ho hg); clear hz ho hg h; clear k3; have k4 := HKC.out _ BW.out)
    | (go_at_call 20; have h := S.out.wr; refine (CW16.out _ _ h S.out.le).mono ?_; rintro e w5 ⟨F5, rfl, hz, ho, hg⟩; replace BW := Go.Lib.hid (BW.out.trans (S.out.only ho)); replace S := Go.Lib.hid (S.out.wrote hz ho hg); clear hz ho hg h; clear k4; have k5 := HKC.out _ BW.out)
    | (go_at_call 21; have h := S.out.wr; refine (CW32.out _ _ h S.out.le).mono ?_; rintro e w6 ⟨F6, rfl, hz, ho, hg⟩; replace BW := Go.Lib.hid (BW.out.trans (S.out.only ho)); replace S := Go.Lib.hid (S.out.wrote hz ho hg); clear hz ho hg h; clear k5; have k6 := HKC.out _ BW.out))
  clear w32 CW8 CW16 CW32
  go_wp2
  have D6 := Go.Lib.hid (show Below w6.heap.size w6 w6.drew from (Below.refl _ w6).drew)
  replace BW := Go.Lib.hid (BW.out.trans (D6.out.mono BW.out.size))
  replace S := Go.Lib.hid (S.out.below D6.out)
  clear D6 k6
  have k7 := HKC.out _ BW.out
  have u0 := wrap_u64 n0
  have u1 := wrap_u64 n1
  have u2 := wrap_u64 n2
  have CB1 := Go.Lib.hid (fun W => show Calls Try.prog 22 #[.int .u64 (u64 n0 : Nat), .int .i64 1] W (BigF 1 (big (u64 n0) 1) W) from big_gives (u64 n0) 1 W (u64_lt n0) (by decide))
  have CB2 := Go.Lib.hid (fun W => show Calls Try.prog 22 #[.int .u64 (u64 n1 : Nat), .int .i64 2] W (BigF 2 (big (u64 n1) 2) W) from big_gives (u64 n1) 2 W (u64_lt n1) (by decide))
  have CB3 := Go.Lib.hid (fun W => show Calls Try.prog 22 #[.int .u64 (u64 n2 : Nat), .int .i64 4] W (BigF 4 (big (u64 n2) 4) W) from big_gives (u64 n2) 4 W (u64_lt n2) (by decide))
  go_region_held3 (fun w' => w'.cell? ⟨w.heap.size, 0, none⟩ = some (.int .i64 n0) ∧ w'.cell? ⟨w.heap.size, 1, none⟩ = some (.int .i64 n1) ∧ w'.cell? ⟨w.heap.size, 2, none⟩ = some (.int .i64 n2)) (assumption) (first
    | (go_at_call 22; have tok := T2.out; clear tok; refine (CB3.out _).mono ?_; rintro e w9 ⟨A9, c9, rfl, hown, hb⟩; have U3 := Go.Lib.hid (Piece.new S.out hown (by rw [big_len]) (big_small _ _)); replace BW := Go.Lib.hid (BW.out.trans (hb.mono BW.out.size)); replace S := Go.Lib.hid (S.out.below hb); (clear hown hb); replace k7 := HKC.out _ BW.out)
    | (go_at_call 22; have tok := T1.out; clear tok; refine (CB2.out _).mono ?_; rintro e w8 ⟨A8, c8, rfl, hown, hb⟩; have U2 := Go.Lib.hid (Piece.new S.out hown (by rw [big_len]) (big_small _ _)); replace BW := Go.Lib.hid (BW.out.trans (hb.mono BW.out.size)); replace S := Go.Lib.hid (S.out.below hb); (clear hown hb); replace k7 := HKC.out _ BW.out)
    | (go_at_call 22; refine (CB1.out _).mono ?_; rintro e w7 ⟨A7, c7, rfl, hown, hb⟩; have U1 := Go.Lib.hid (Piece.new S.out hown (by rw [big_len]) (big_small _ _)); replace BW := Go.Lib.hid (BW.out.trans (hb.mono BW.out.size)); replace S := Go.Lib.hid (S.out.below hb); (clear hown hb); replace k7 := HKC.out _ BW.out)
    | (have hu := U1.out
       refine step_append_row (by rfl) (.tmp 27) (.tmp 31) (by rfl) E0 wb.heap.size _ 0 (cells8 ([])) (by rfl) ?_ _ 1 (cells8 (big (u64 n0) 1)) (by rfl) ?_ (ones8 _) ?_ ?_ ?_ 1 (by rfl) ?_
       · exact S.out.row
       · exact hu.1.1
       · unfold maxLen; omega
       · omega
       · exact S.out.le
       intro A10 c10 w10 hown hg hat hb
       replace BW := Go.Lib.hid (BW.out.trans hb)
       replace S := Go.Lib.hid (St.grown (m := []) (k := big (u64 n0) 1) S.out hown (by simp [big_len]) hg hat (big_small _ _))
       clear hown hg hat hb hu U1
       have T1 := Go.Lib.hid True.intro
       replace k7 := HKC.out _ BW.out)
    | (have hu := U2.out
       refine step_append_row (by rfl) (.tmp 32) (.tmp 36) (by rfl) E0 wb.heap.size _ 1 (cells8 ([] ++ big (u64 n0) 1)) (by rfl) ?_ _ 2 (cells8 (big (u64 n1) 2)) (by rfl) ?_ (ones8 _) ?_ ?_ ?_ 3 (by rfl) ?_
       · exact S.out.row
       · exact hu.1.1
       · unfold maxLen; omega
       · omega
       · exact S.out.le
       intro A11 c11 w11 hown hg hat hb
       replace BW := Go.Lib.hid (BW.out.trans hb)
       replace S := Go.Lib.hid (St.grown (m := [] ++ big (u64 n0) 1) (k := big (u64 n1) 2) S.out hown (by simp [big_len]) hg hat (big_small _ _))
       clear hown hg hat hb hu U2
       have T2 := Go.Lib.hid True.intro
       replace k7 := HKC.out _ BW.out)
    | (have hu := U3.out
       refine step_append_row (by rfl) (.tmp 37) (.tmp 41) (by rfl) E0 wb.heap.size _ 3 (cells8 (([] ++ big (u64 n0) 1) ++ big (u64 n1) 2)) (by rfl) ?_ _ 4 (cells8 (big (u64 n2) 4)) (by rfl) ?_ (ones8 _) ?_ ?_ ?_ 7 (by rfl) ?_
       · exact S.out.row
       · exact hu.1.1
       · unfold maxLen; omega
       · omega
       · exact S.out.le
       intro A12 c12 w12 hown hg hat hb
       replace BW := Go.Lib.hid (BW.out.trans hb)
       replace S := Go.Lib.hid (St.grown (m := ([] ++ big (u64 n0) 1) ++ big (u64 n1) 2) (k := big (u64 n2) 4) S.out hown (by simp [big_len]) hg hat (big_small _ _))
       clear hown hg hat hb hu U3
       have T3 := Go.Lib.hid True.intro
       replace k7 := HKC.out _ BW.out))
  clear u0 u1 u2 CB1 CB2 CB3 k7 T1 T2 T3
  have z255 : (l.length : Int) ≤ 255 := by omega
  have z300 : (l.length : Int) ≤ 300 := by omega
  have S0 := Go.Lib.hid (show St wb.heap.size (.pointer (some ⟨wb.heap.size, 0, none⟩)) (nums n0 n1 n2) F6 (.slice A12 7 c12) (nums n0 n1 n2) w12 from S.out)
  have CY := Go.Lib.hid (fun (W : World) (h : Below wb.heap.size wb W) => show Calls Try.prog 7 #[.slice Ab l.length cb, .int .i64 300] W (Gives8 l W) from by
    have h1 := bytes_any (.slice Ab l.length cb) l 300 W (HUB.out W h) (by decide)
    rw [HT.out] at h1
    exact h1)
  have CP := Go.Lib.hid (fun (F : Nat → Prop) (A : Option Addr) (c : Nat) (W : World) (h : Wr W wb.heap.size (.pointer (some ⟨wb.heap.size, 0, none⟩)) (nums n0 n1 n2) F) (hs : wb.heap.size ≤ W.heap.size) (hu : U8s W (.slice A l.length c) l) => put_any (.pointer (some ⟨wb.heap.size, 0, none⟩)) (.slice A l.length c) wb.heap.size ((nums n0 n1 n2)) l F W h hu (by rw [nums_len]; omega) hs)
  have CS := Go.Lib.hid (fun (F : Nat → Prop) (A : Option Addr) (c : Nat) (W : World) (h : Wr W wb.heap.size (.pointer (some ⟨wb.heap.size, 0, none⟩)) ((nums n0 n1 n2) ++ l) F) (hs : wb.heap.size ≤ W.heap.size) (hu : U8s W (.slice A l.length c) l) (hL : Lies W.heap.size F (.slice A l.length c)) => show Calls Try.prog 24 #[(.pointer (some ⟨wb.heap.size, 0, none⟩)), .slice A l.length c] W (AddF wb.heap.size (.pointer (some ⟨wb.heap.size, 0, none⟩)) (.bool true) (((nums n0 n1 n2) ++ l) ++ ([l.length] ++ l)) F W) from by
    have h1 := sized_any (.pointer (some ⟨wb.heap.size, 0, none⟩)) A c wb.heap.size ((nums n0 n1 n2) ++ l) l F W h hu hL (by rw [List.length_append, nums_len]; omega) hs
    rwa [sized_ok hok, decide_eq_true hok] at h1)
  have n5 : ((((nums n0 n1 n2) ++ l) ++ ([l.length] ++ l))).length = (7 + l.length + 1 + l.length) := by simp only [List.length_append, nums_len, List.length_cons, List.length_nil]; omega
  have CG := Go.Lib.hid (fun (F : Nat → Prop) (A : Option Addr) (c : Nat) (W : World) (h : Wr W wb.heap.size (.pointer (some ⟨wb.heap.size, 0, none⟩)) (((nums n0 n1 n2) ++ l) ++ ([l.length] ++ l)) F) (hs : wb.heap.size ≤ W.heap.size) (hu : U8s W (.slice A l.length c) l) (hL : Lies W.heap.size F (.slice A l.length c)) => show Calls Try.prog 25 #[(.pointer (some ⟨wb.heap.size, 0, none⟩)), .slice A l.length c] W (AddF wb.heap.size (.pointer (some ⟨wb.heap.size, 0, none⟩)) (.bool true) ((((nums n0 n1 n2) ++ l) ++ ([l.length] ++ l)) ++ (big l.length 2 ++ l)) F W) from by
    have h1 := long_any (.pointer (some ⟨wb.heap.size, 0, none⟩)) A c wb.heap.size (((nums n0 n1 n2) ++ l) ++ ([l.length] ++ l)) l F W h hu hL (by rw [n5]; omega) hs
    rwa [long_ok hl3, decide_eq_true (show l.length ≤ 65535 by omega)] at h1)
  have CB := Go.Lib.hid (fun W => show Calls Try.prog 22 #[.int .u64 (l.length : Nat), .int .i64 2] W (BigF 2 (big l.length 2) W) from big_gives l.length 2 W (by omega) (by decide))
  have CL := Go.Lib.hid lives_any
  have QL := Go.Lib.hid (nums_len n0 n1 n2)
  clear S n5
  go_wp2_with (first
    | (go_at_call 7; have s := S0.out; refine (CY.out _ BW.out).mono ?_; rintro e y1 ⟨B1, d1, rfl, hown, hb⟩; have XU1 := Go.Lib.hid (U8s.of_own hown HLS.out); have XL1 := Go.Lib.hid (s.lies hown); have S1 := Go.Lib.hid (s.below hb); replace BW := Go.Lib.hid (BW.out.trans (hb.mono BW.out.size)); clear s S0 hown hb)
    | (go_at_call 23; have s := S1.out; have hu := XU1.out; have hl := XL1.out; refine (CP.out _ _ _ _ s.wr s.le hu).mono ?_; rintro e y2 ⟨G2, rfl, hz, ho, hg⟩; replace BW := Go.Lib.hid (BW.out.trans (s.only ho)); have S2 := Go.Lib.hid (s.wrote hz ho hg); clear s S1 hu hl XU1 XL1 hz ho hg)
    | (at_builtin; have s0 := S2.out; have hu := HUB.out _ BW.out; refine wpList_append_row rfl (.tmp 47) (.tmp 48) rfl E0 wb.heap.size _ 7 _ rfl (s0.row_ QL.out) _ l.length (cells8 l) rfl hu.1 (ones8 _) (by unfold maxLen; omega) (by omega) s0.le (7 + l.length) rfl ?_; intro E3 e3 y3 hown hg hat hb; replace BW := Go.Lib.hid (BW.out.trans hb); have S3 := Go.Lib.hid (s0.grown (k := l) hown (grow_len QL.out rfl) hg hat HLS.out); replace QL := Go.Lib.hid (show (_ ++ l).length = 7 + l.length from (grow_len (k := l) QL.out rfl).symm); clear  s0 S2 hown hg hat hb hu)
    | (go_at_call 7; have s := S3.out; refine (CY.out _ BW.out).mono ?_; rintro e y4 ⟨B4, d4, rfl, hown, hb⟩; have XU4 := Go.Lib.hid (U8s.of_own hown HLS.out); have XL4 := Go.Lib.hid (s.lies hown); have S4 := Go.Lib.hid (s.below hb); replace BW := Go.Lib.hid (BW.out.trans (hb.mono BW.out.size)); clear s S3 hown hb)
    | (go_at_call 24; have s := S4.out; have hu := XU4.out; have hl := XL4.out; refine (CS.out _ _ _ _ s.wr s.le hu hl).mono ?_; rintro e y5 ⟨G5, rfl, hz, ho, hg⟩; replace BW := Go.Lib.hid (BW.out.trans (s.only ho)); have S5 := Go.Lib.hid (s.wrote hz ho hg); clear s S4 hu hl XU4 XL4 hz ho hg)
    | (at_builtin; have s0 := S5.out; have hal := fun (W : World) => (Below.refl W.heap.size W).alloc (Nat.le_refl _) (.cells #[.int .u8 (l.length : Nat)] 5); have s1 := s0.below (hal _); have bw1 := BW.out.trans ((hal _).mono BW.out.size); clear hal; refine wpList_append_row rfl (.tmp 60) (.tmp 64) rfl E0 wb.heap.size _ (7 + l.length) _ rfl (s1.row_ QL.out) _ 1 (cells8 [l.length]) rfl (Row.one _ _ _) (ones8 _) (by unfold maxLen; omega) (by omega) s1.le ((7 + l.length) + 1) rfl ?_; intro E6 e6 y6 hown hg hat hb; replace BW := Go.Lib.hid (bw1.trans hb); have S6 := Go.Lib.hid (s1.grown (k := [l.length]) hown (grow_len QL.out rfl) hg hat (fun y hy => by simp at hy; omega)); replace QL := Go.Lib.hid (show (_ ++ [l.length]).length = (7 + l.length) + 1 from (grow_len (k := [l.length]) QL.out rfl).symm); clear s1 bw1 s0 S5 hown hg hat hb)
    | (at_builtin; have s0 := S6.out; have hu := HUB.out _ BW.out; refine wpList_append_row rfl (.tmp 65) (.tmp 66) rfl E0 wb.heap.size _ (7 + l.length + 1) _ rfl (s0.row_ QL.out) _ l.length (cells8 l) rfl hu.1 (ones8 _) (by unfold maxLen; omega) (by omega) s0.le ((7 + l.length + 1) + l.length) rfl ?_; intro E7 e7 y7 hown hg hat hb; replace BW := Go.Lib.hid (BW.out.trans hb); have S7 := Go.Lib.hid (s0.grown (k := l) hown (grow_len QL.out rfl) hg hat HLS.out); replace QL := Go.Lib.hid (show (_ ++ l).length = (7 + l.length + 1) + l.length from (grow_len (k := l) QL.out rfl).symm); clear  s0 S6 hown hg hat hb hu)
    | (go_at_call 7; have s := S7.out; refine (CY.out _ BW.out).mono ?_; rintro e y8 ⟨B8, d8, rfl, hown, hb⟩; have XU8 := Go.Lib.hid (U8s.of_own hown HLS.out); have XL8 := Go.Lib.hid (s.lies hown); have S8 := Go.Lib.hid (s.below hb); replace BW := Go.Lib.hid (BW.out.trans (hb.mono BW.out.size)); clear s S7 hown hb)
    | (go_at_call 25; have s := S8.out; have hu := XU8.out; have hl := XL8.out; refine (CG.out _ _ _ _ s.wr s.le hu hl).mono ?_; rintro e y9 ⟨G9, rfl, hz, ho, hg⟩; replace BW := Go.Lib.hid (BW.out.trans (s.only ho)); have S9 := Go.Lib.hid (s.wrote hz ho hg); clear s S8 hu hl XU8 XL8 hz ho hg)
    | (go_at_call 22; have s := S9.out; refine (CB.out _).mono ?_; rintro e y10 ⟨B10, d10, rfl, hown, hb⟩; have XP := Go.Lib.hid (Piece.new s hown (by rw [big_len]) (big_small _ _)); have S10 := Go.Lib.hid (s.below hb); replace BW := Go.Lib.hid (BW.out.trans (hb.mono BW.out.size)); clear s S9 hown hb)
    | (at_builtin; have s0 := S10.out; have hu := XP.out; refine wpList_append_row rfl (.tmp 72) (.tmp 76) rfl E0 wb.heap.size _ (7 + l.length + 1 + l.length) _ rfl (s0.row_ QL.out) _ 2 (cells8 (big l.length 2)) rfl hu.1.1 (ones8 _) (by unfold maxLen; omega) (by omega) s0.le ((7 + l.length + 1 + l.length) + 2) rfl ?_; intro E11 e11 y11 hown hg hat hb; replace BW := Go.Lib.hid (BW.out.trans hb); have S11 := Go.Lib.hid (s0.grown (k := (big l.length 2)) hown (grow_len QL.out (big_len _ _)) hg hat (big_small _ _)); replace QL := Go.Lib.hid (show (_ ++ (big l.length 2)).length = (7 + l.length + 1 + l.length) + 2 from (grow_len (k := (big l.length 2)) QL.out (big_len _ _)).symm); clear  s0 S10 hown hg hat hb hu XP)
    | (at_builtin; have s0 := S11.out; have hu := HUB.out _ BW.out; refine wpList_append_row rfl (.tmp 77) (.tmp 78) rfl E0 wb.heap.size _ ((7 + l.length + 1 + l.length) + 2) _ rfl (s0.row_ QL.out) _ l.length (cells8 l) rfl hu.1 (ones8 _) (by unfold maxLen; omega) (by omega) s0.le (((7 + l.length + 1 + l.length) + 2) + l.length) rfl ?_; intro E12 e12 y12 hown hg hat hb; replace BW := Go.Lib.hid (BW.out.trans hb); have S12 := Go.Lib.hid (s0.grown (k := l) hown (grow_len QL.out rfl) hg hat HLS.out); replace QL := Go.Lib.hid (show (_ ++ l).length = ((7 + l.length + 1 + l.length) + 2) + l.length from (grow_len (k := l) QL.out rfl).symm); clear  s0 S11 hown hg hat hb hu))
  obtain ⟨N, hN⟩ : ∃ N, N = ((7 + l.length + 1 + l.length) + 2 + l.length) := ⟨_, rfl⟩
  have hNb : N ≤ 2000 := by omega
  have s12 := S12.out
  rw [← hN] at s12 ⊢
  have hM : ((((nums n0 n1 n2) ++ l) ++ ([l.length] ++ l)) ++ (big l.length 2 ++ l)).length = N := by
    have := QL.out
    rw [← hN] at this
    rw [← this]
    simp only [List.append_assoc]
  have hmm : (((((nums n0 n1 n2) ++ l) ++ [l.length]) ++ l) ++ big l.length 2) ++ l = ((((nums n0 n1 n2) ++ l) ++ ([l.length] ++ l)) ++ (big l.length 2 ++ l)) := by simp only [List.append_assoc]
  rw [hmm] at s12
  have hsm : Small ((((nums n0 n1 n2) ++ l) ++ ([l.length] ++ l)) ++ (big l.length 2 ++ l)) := s12.wr.choose_spec.choose_spec.2.2.2.2.1
  generalize ((((nums n0 n1 n2) ++ l) ++ ([l.length] ++ l)) ++ (big l.length 2 ++ l)) = M at s12 hM hsm
  have D := Go.Lib.hid (show Below y12.heap.size y12 y12.drew from (Below.refl _ y12).drew)
  replace BW := Go.Lib.hid (BW.out.trans (D.out.mono BW.out.size))
  have S13 := Go.Lib.hid (s12.below D.out)
  have CT := Go.Lib.hid (fun (F : Nat → Prop) (W : World) (h : Wr W wb.heap.size (.pointer (some ⟨wb.heap.size, 0, none⟩)) M F) => show Calls Try.prog 26 #[(.pointer (some ⟨wb.heap.size, 0, none⟩))] W (fun e w' => ∃ A c, e = .returned (.slice A N c) ∧ (convert 22 9 (.slice A N c)).run Try.prog w' = .ok (.string (txt M)) w' ∧ Below W.heap.size W w') from
    (wbytes_any (.pointer (some ⟨wb.heap.size, 0, none⟩)) wb.heap.size M F W h (by rw [hM]; omega)).mono fun e w' ⟨A, c, h1, h2, h3⟩ => ⟨A, c, by rw [hM] at h1; exact h1, by have := text8 (U8s.of_own h2 hsm); rw [hM] at this; exact this, h3⟩)
  have CG := Go.Lib.hid (fun (F : Nat → Prop) (v : Value) (m : List Nat) (W : World) (h : St wb.heap.size (.pointer (some ⟨wb.heap.size, 0, none⟩)) M F v m W) => long_made h (by rw [hM]; omega))
  have CM := Go.Lib.hid make8
  have k13 := S13.out.text
  clear s12 hmm hN hM hsm QL S12 CY CP CS CB D
  go_region_with (first
    | (go_at_call 26; have h := S13.out.wr; refine (CT.out _ _ h).mono ?_; rintro e y14 ⟨A14, c14, rfl, kx, hb⟩; have S14 := Go.Lib.hid (S13.out.below hb); replace BW := Go.Lib.hid (BW.out.trans (hb.mono BW.out.size)); clear S13 hb h; have k14 := S14.out.text))
  all_goals clear CT
  all_goals rcases long_cases long with hc | hc | ⟨k, rfl, hk1, hk2⟩ | ⟨k, rfl, hk1, hk2⟩
  all_goals first
    | (have hd : decide (long < 65530) = true := decide_eq_true hc
       go_wp2_with (go_at_call 18; refine (CL.out _).mono ?_; rintro e y15 ⟨rfl, hb⟩; replace BW := Go.Lib.hid (BW.out.trans (hb.mono BW.out.size)); clear hb)
       go_ret
       exact ⟨rfl, HEND.out _ BW.out⟩)
    | (have hd : decide (long < 65530) = false := decide_eq_false (by omega)
       have hd2 : decide (65540 < long) = true := decide_eq_true hc
       go_wp2_with (go_at_call 18; refine (CL.out _).mono ?_; rintro e y15 ⟨rfl, hb⟩; replace BW := Go.Lib.hid (BW.out.trans (hb.mono BW.out.size)); clear hb)
       go_ret
       exact ⟨rfl, HEND.out _ BW.out⟩)
    | (have z1 : (65530 : Int) ≤ (k : Int) := by omega
       have z2 : (k : Int) ≤ 65535 := by omega
       have e1 : decide (k ≤ 65535) = true := decide_eq_true hk2
       have hmk := CM.out k (by omega)
       clear hk1
       go_wp2_with (first
         | (go_at_call 25; refine (CG.out _ _ _ _ S14.out k (by omega)).mono ?_; rintro e y15 ⟨rfl, hb⟩; rw [e1]; replace BW := Go.Lib.hid (BW.out.trans hb); clear hb)
         | (go_at_call 18; refine (CL.out _).mono ?_; rintro e y16 ⟨rfl, hb⟩; replace BW := Go.Lib.hid (BW.out.trans (hb.mono BW.out.size)); clear hb))
       go_ret
       exact ⟨rfl, HEND.out _ BW.out⟩)
    | (have z1 : (65535 : Int) < (k : Int) := by omega
       have z2 : (k : Int) ≤ 65540 := by omega
       have e1 : decide (k ≤ 65535) = false := decide_eq_false (by omega)
       have hd : decide ((k : Int) ≤ 65535) = false := decide_eq_false (by omega)
       have hmk := CM.out k (by omega)
       clear hk1
       go_wp2_with (first
         | (go_at_call 25; refine (CG.out _ _ _ _ S14.out k (by omega)).mono ?_; rintro e y15 ⟨rfl, hb⟩; rw [e1]; replace BW := Go.Lib.hid (BW.out.trans hb); clear hb)
         | (go_at_call 18; refine (CL.out _).mono ?_; rintro e y16 ⟨rfl, hb⟩; replace BW := Go.Lib.hid (BW.out.trans (hb.mono BW.out.size)); clear hb))
       go_ret
       exact ⟨rfl, HEND.out _ BW.out⟩)
end Go.Proofs.Ytkomelckmhnpeaa.Oct
