/- The law TrieNone, out of what is asked of calls with no tree. -/
import Derived.Test.YtpcahgnibdampaaTriFace
import Derived.Outline
import Derived.Deep.Cut
import Derived.Laws.Tables
import Derived.BigQuiet
import Derived.Deep.RegionHeld3
namespace Go.Proofs.Ytpcahgnibdampaa.Tri
open Go.RowKit Mem PR Pfx Oct

/-- What is asked of calls with no tree. -/
structure FaceN : Prop where
  put : ∀ (p : Pf) (x : Int) (W : World), p.ok → Calls Try.prog 24 #[.pointer none, pV p, .int .i64 x] W (Tells (.tuple #[.int .i64 0, .bool false]) W)
  get : ∀ (p : Pf) (W : World), p.ok → Calls Try.prog 11 #[.pointer none, pV p] W (Tells (.tuple #[.int .i64 0, .bool false]) W)
  cut : ∀ (p : Pf) (W : World), p.ok → Calls Try.prog 25 #[.pointer none, pV p] W (Tells (.tuple #[.int .i64 0, .bool false]) W)
  long : ∀ (a : Nat) (W : World), a < 4294967296 → Calls Try.prog 12 #[.pointer none, .int .u32 a] W (Tells (longV none) W)
  above : ∀ (p : Pf) (W : World), p.ok → Calls Try.prog 15 #[.pointer none, pV p] W (GivesP [] W)
  below : ∀ (p : Pf) (W : World), p.ok → Calls Try.prog 17 #[.pointer none, pV p] W (GivesP [] W)
  all : ∀ (W : World), Calls Try.prog 20 #[.pointer none] W (GivesP [] W)
  len : ∀ (W : World), Calls Try.prog 19 #[.pointer none] W (Tells (.int .i64 0) W)
  count : ∀ (p : Pf) (W : World), p.ok → Calls Try.prog 18 #[.pointer none, pV p] W (Tells (.int .i64 0) W)
  nodes : ∀ (W : World), Calls Try.prog 23 #[.pointer none] W (Tells (.int .i64 0) W)
  check : ∀ (W : World), Calls Try.prog 22 #[.pointer none] W (Tells (.bool false) W)
theorem gives_nil {w w' : World} {e : Ending} (h : GivesP [] w e w') : ∃ A c, e = .returned (.slice A 0 c) ∧ Below w.heap.size w w' := by
  obtain ⟨A, c, h1, -, h3⟩ := h
  exact ⟨A, c, h1, h3⟩
set_option maxRecDepth 100000 in
set_option maxHeartbeats 16000000 in
theorem none_of (FN : FaceN) (HLV : ∀ W, Calls Try.prog 21 #[] W (Tells (.bool true) W)) (p : Pf) (a : Nat) (w : World) (hp : p.ok) (ha : a < 4294967296) :
    Calls Try.prog 6 #[pV p, .int .u32 a] w (Tells (.bool true) w) := by
  have LV := Go.Lib.hid HLV
  have C1 := Go.Lib.hid (fun W => FN.put p 5 W hp)
  have C2 := Go.Lib.hid (fun W => FN.get p W hp)
  have C3 := Go.Lib.hid (fun W => FN.cut p W hp)
  have C4 := Go.Lib.hid (fun W => FN.long a W ha)
  have C5 := Go.Lib.hid (fun W => FN.above p W hp)
  have C6 := Go.Lib.hid (fun W => FN.below p W hp)
  have C7 := Go.Lib.hid FN.all
  have C8 := Go.Lib.hid FN.len
  have C9 := Go.Lib.hid (fun W => FN.count p W hp)
  have C10 := Go.Lib.hid FN.nodes
  have C11 := Go.Lib.hid FN.check
  obtain ⟨qa, qn⟩ := p
  unfold pV at *
  unfold longV at C4
  dsimp only at *
  have hb0 := below_new w (.cells #[.int .u32 (qa : Int), .int .i64 qn] 25)
  obtain ⟨c0, c1⟩ := cells_two w (.int .u32 (qa : Int)) (.int .i64 qn) 25
  have hlt0 : w.heap.size < (w.alloc (.cells #[.int .u32 (qa : Int), .int .i64 qn] 25)).heap.size := by simp
  obtain ⟨W0, hW0⟩ : ∃ W, W = w.alloc (.cells #[.int .u32 (qa : Int), .int .i64 qn] 25) := ⟨_, rfl⟩
  rw [← hW0] at hb0 c0 c1 hlt0
  have HW0 := Go.Lib.hid hW0
  have HB := Go.Lib.hid hb0
  have HK := Go.Lib.hid (fun (W : World) (h : Below W0.heap.size W0 W) => (⟨(h.cell (p := ⟨w.heap.size, 0, none⟩) hlt0).trans c0, (h.cell (p := ⟨w.heap.size, 1, none⟩) hlt0).trans c1⟩ : W.cell? ⟨w.heap.size, 0, none⟩ = some (.int .u32 qa) ∧ W.cell? ⟨w.heap.size, 1, none⟩ = some (.int .i64 qn)))
  have BW := Go.Lib.hid (Below.refl W0.heap.size W0)
  clear hW0 hb0 HLV hlt0 c0 c1 FN
  go_enter Try.func6, Try.ntmps6
  go_upto_region 2 with fail
  rw [← HW0.out]
  obtain ⟨d0, d1⟩ := HK.out _ BW.out
  clear HW0
  go_upto_region 6 with (first
    | (go_at_call 24; refine (C1.out _).mono ?_; rintro e x ⟨rfl, hb⟩; replace BW := Go.Lib.hid (BW.out.trans (hb.mono BW.out.size)); obtain ⟨d0, d1⟩ := HK.out _ BW.out; clear hb)
    | (go_at_call 11; refine (C2.out _).mono ?_; rintro e x ⟨rfl, hb⟩; replace BW := Go.Lib.hid (BW.out.trans (hb.mono BW.out.size)); obtain ⟨d0, d1⟩ := HK.out _ BW.out; clear hb)
    | (go_at_call 25; refine (C3.out _).mono ?_; rintro e x ⟨rfl, hb⟩; replace BW := Go.Lib.hid (BW.out.trans (hb.mono BW.out.size)); obtain ⟨d0, d1⟩ := HK.out _ BW.out; clear hb)
    | (go_at_call 12; refine (C4.out _).mono ?_; rintro e x ⟨rfl, hb⟩; replace BW := Go.Lib.hid (BW.out.trans (hb.mono BW.out.size)); obtain ⟨d0, d1⟩ := HK.out _ BW.out; clear hb))
  replace BW := Go.Lib.hid (BW.out.alloc BW.out.size (.cells #[.int .u32 0, .int .i64 0] 25))
  obtain ⟨d0, d1⟩ := HK.out _ BW.out
  go_wp2_with (first
    | (go_at_call 15; refine (C5.out _).mono ?_; rintro e x hg; obtain ⟨A, c, rfl, hb⟩ := gives_nil hg; replace BW := Go.Lib.hid (BW.out.trans (hb.mono BW.out.size)); obtain ⟨d0, d1⟩ := HK.out _ BW.out; clear hb; clear hg)
    | (go_at_call 17; refine (C6.out _).mono ?_; rintro e x hg; obtain ⟨A, c, rfl, hb⟩ := gives_nil hg; replace BW := Go.Lib.hid (BW.out.trans (hb.mono BW.out.size)); obtain ⟨d0, d1⟩ := HK.out _ BW.out; clear hb; clear hg)
    | (go_at_call 20; refine (C7.out _).mono ?_; rintro e x hg; obtain ⟨A, c, rfl, hb⟩ := gives_nil hg; replace BW := Go.Lib.hid (BW.out.trans (hb.mono BW.out.size)); obtain ⟨d0, d1⟩ := HK.out _ BW.out; clear hb; clear hg)
    | (go_at_call 19; refine (C8.out _).mono ?_; rintro e x ⟨rfl, hb⟩; replace BW := Go.Lib.hid (BW.out.trans (hb.mono BW.out.size)); obtain ⟨d0, d1⟩ := HK.out _ BW.out; clear hb)
    | (go_at_call 18; refine (C9.out _).mono ?_; rintro e x ⟨rfl, hb⟩; replace BW := Go.Lib.hid (BW.out.trans (hb.mono BW.out.size)); obtain ⟨d0, d1⟩ := HK.out _ BW.out; clear hb)
    | (go_at_call 23; refine (C10.out _).mono ?_; rintro e x ⟨rfl, hb⟩; replace BW := Go.Lib.hid (BW.out.trans (hb.mono BW.out.size)); obtain ⟨d0, d1⟩ := HK.out _ BW.out; clear hb)
    | (go_at_call 22; refine (C11.out _).mono ?_; rintro e x ⟨rfl, hb⟩; replace BW := Go.Lib.hid (BW.out.trans (hb.mono BW.out.size)); obtain ⟨d0, d1⟩ := HK.out _ BW.out; clear hb)
    | (go_at_call 21; refine (LV.out _).mono ?_; rintro e x ⟨rfl, hb⟩; replace BW := Go.Lib.hid (BW.out.trans (hb.mono BW.out.size)); obtain ⟨d0, d1⟩ := HK.out _ BW.out; clear hb))
  go_ret
  exact ⟨rfl, HB.out.trans (BW.out.mono HB.out.size)⟩
end Go.Proofs.Ytpcahgnibdampaa.Tri
