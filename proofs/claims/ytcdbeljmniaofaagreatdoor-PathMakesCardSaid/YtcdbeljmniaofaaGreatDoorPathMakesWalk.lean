/- PathMakes: the small living call, and the law's walk. -/
import Derived.Test.YtcdbeljmniaofaaGreatDoorPathReads
import Derived.Test.YtcdbeljmniaofaaGreatDoorPathTells
import Derived.Test.YtcdbeljmniaofaaGreatDoorPathMade
namespace Go.Proofs.YtcdbeljmniaofaaGreatDoor.Seg
open Go.RowKit Mem Rise Pfx Dec Nums Segm

set_option maxRecDepth 100000 in
set_option maxHeartbeats 4000000 in
/-- A path is read. -/
theorem lives_any (w : World) (hv : ErrVars w) : Calls Tryz.prog 12 #[] w (Tells (.bool true) w) := by
  have C1 : Calls Tryz.prog 21 #[.string ⟨#[49, 32, 50, 32, 123, 51, 32, 52, 125, 32, 53]⟩] w fun e w' => (∃ A c, e = .returned (.tuple #[.slice A 3 c, .int .i64 0]) ∧ Segs w' (.slice A 3 c) [(2, [1, 2]), (1, [3, 4]), (2, [5])]) ∧ Below w.heap.size w w' := pparse_live w hv
  have C1 := Go.Lib.hid C1
  have C2 := Go.Lib.hid (fun v (W : World) (h : Segs W v [(2, [1, 2]), (1, [3, 4]), (2, [5])]) => first_any v 1 [2] _ W h)
  have C3 := Go.Lib.hid (show ∀ v (W : World), Segs W v [(2, [1, 2]), (1, [3, 4]), (2, [5])] → Calls Tryz.prog 23 #[v] W (Tells (.int .i64 4) W) from fun v W h => len_any v _ W h (by decide))
  have C4 := Go.Lib.hid (show ∀ v (W : World), Segs W v [(2, [1, 2]), (1, [3, 4]), (2, [5])] → Calls Tryz.prog 24 #[v] W (Tells (.string ⟨#[49, 32, 50, 32, 123, 51, 32, 52, 125, 32, 53]⟩) W) from fun v W h => live_text_any v W h)
  clear hv
  go_enter Tryz.func12, Tryz.ntmps12
  go_wp2_with (first
    | (go_at_call 21; refine (C1.out).mono ?_; rintro e w1 ⟨⟨A, c, rfl, hs⟩, hb1⟩; have HS := Go.Lib.hid hs; clear hs)
    | (go_at_call 22; refine (C2.out _ _ HS.out).mono ?_; rintro e w2 ⟨rfl, hb2⟩; have HS2 := Go.Lib.hid ((HS.out).keep hb2))
    | (go_at_call 23; refine (C3.out _ _ HS2.out).mono ?_; rintro e w3 ⟨rfl, hb3⟩; have HS3 := Go.Lib.hid ((HS2.out).keep hb3))
    | (go_at_call 24; refine (C4.out _ _ HS3.out).mono ?_; rintro e w4 ⟨rfl, hb4⟩))
  go_ret
  exact ⟨rfl, ((hb1.trans (hb2.mono hb1.size)).trans (hb3.mono (Nat.le_trans hb1.size hb2.size))).trans (hb4.mono (Nat.le_trans hb1.size (Nat.le_trans hb2.size hb3.size)))⟩

theorem makes_walk (vl : Value) (l : List Piece) (n0 n1 : Int) (v0 v1 : Value) (t0 t1 : List Nat) (w : World) (hl : Segs w vl l) (h0 : U32s w v0 t0) (h1 : U32s w v1 t1) (hE : ErrVars w)
    (_hT : Lib.TabIs Tryz.prog w "internal/strconv.uint64pow10" .u64 Lib.pow10Tab) :
    Calls Tryz.prog 3 #[vl, .agg #[.int .i64 n0, .int .i64 n1], .agg #[v0, v1]] w (Tells (.bool true) w) :=
  makes_of ErrVars vl v0 v1 l t0 t1 n0 n1 w hl h0 h1 hE (fun _ _ h hb => h.keep hb)
    (fun v p n k W h hp hf hn => pprepend_any v p n k W h hp hf hn)
    (fun v a W h hla => (seq_any v a W h hla).mono fun _ _ h2 => TellsSegs.of_givesF h2)
    (fun v x a b W ha hb hla hlb => pjoin_any v x a b W ha hb hla hlb)
    (fun W h => lives_any W h)
end Go.Proofs.YtcdbeljmniaofaaGreatDoor.Seg
