/- The reference's Good of attributes. -/
import Derived.Test.YtanmepgplpijkaaDoorH11
import Derived.Test.YtanmepgplpijkaaDoorH14
import Derived.Deep.RegionHeld3
namespace Go.Proofs.YtanmepgplpijkaaDoor.Att
open Go.RowKit Mem Segm Rise
set_option maxRecDepth 100000 in
set_option maxHeartbeats 8000000 in
theorem good_n (h o : Int) (vp : Value) (Ac : Option Addr) (cl cc : Nat) (hp md pr ag ai : Nat) (w : World) (An : At)
    (CN : Hid (∀ W, Below w.heap.size w W → Calls Tryd.prog 11 #[.agg #[.int .i64 h, .int .i64 o, vp, .int .u32 hp, .int .u32 md, .int .u32 pr, .int .u32 ag, .int .u32 ai, .slice Ac cl cc]] W (fun e w' => ∃ v, e = .returned v ∧ Attrs w' v An ∧ Below W.heap.size W w')))
    (CM : Hid (∀ v W, Attrs W v An → Below w.heap.size w W → Calls Tryd.prog 9 #[v, .agg #[.int .i64 h, .int .i64 o, vp, .int .u32 hp, .int .u32 md, .int .u32 pr, .int .u32 ag, .int .u32 ai, .slice Ac cl cc]] W (Tells (.bool false) W)))
    : Calls Tryd.prog 8 #[.agg #[.int .i64 h, .int .i64 o, vp, .int .u32 hp, .int .u32 md, .int .u32 pr, .int .u32 ag, .int .u32 ai, .slice Ac cl cc]] w (Tells (.bool false) w) := by
  have HB := Go.Lib.hid ((Below.refl _ w).alloc (Nat.le_refl _) (.cells #[.int .i64 h, .int .i64 o, vp, .int .u32 hp, .int .u32 md, .int .u32 pr, .int .u32 ag, .int .u32 ai, .slice Ac cl cc] 26))
  have HC := Go.Lib.hid (Box9.new w 26 (.int .i64 h) (.int .i64 o) (vp) (.int .u32 hp) (.int .u32 md) (.int .u32 pr) (.int .u32 ag) (.int .u32 ai) (.slice Ac cl cc))
  go_enter Tryd.func8, Tryd.ntmps8
  go_wp2
  have HKC := Go.Lib.hid (fun (W : World) (h : Below (w.alloc (.cells #[.int .i64 h, .int .i64 o, vp, .int .u32 hp, .int .u32 md, .int .u32 pr, .int .u32 ag, .int .u32 ai, .slice Ac cl cc] 26)).heap.size (w.alloc (.cells #[.int .i64 h, .int .i64 o, vp, .int .u32 hp, .int .u32 md, .int .u32 pr, .int .u32 ag, .int .u32 ai, .slice Ac cl cc] 26)) W) => (HC.out.keep h).cells)
  have HBW := Go.Lib.hid (fun (W : World) (h : Below (w.alloc (.cells #[.int .i64 h, .int .i64 o, vp, .int .u32 hp, .int .u32 md, .int .u32 pr, .int .u32 ag, .int .u32 ai, .slice Ac cl cc] 26)).heap.size (w.alloc (.cells #[.int .i64 h, .int .i64 o, vp, .int .u32 hp, .int .u32 md, .int .u32 pr, .int .u32 ag, .int .u32 ai, .slice Ac cl cc] 26)) W) => HB.out.trans (h.mono HB.out.size))
  have BW := Go.Lib.hid ((Below.refl (w.alloc (.cells #[.int .i64 h, .int .i64 o, vp, .int .u32 hp, .int .u32 md, .int .u32 pr, .int .u32 ag, .int .u32 ai, .slice Ac cl cc] 26)).heap.size (w.alloc (.cells #[.int .i64 h, .int .i64 o, vp, .int .u32 hp, .int .u32 md, .int .u32 pr, .int .u32 ag, .int .u32 ai, .slice Ac cl cc] 26))).drew)
  refine wp_region_noPanic ?_
  refine wp_region_held_drew (S := (fun w' => w'.cell? ⟨w.heap.size, 0, none⟩ = some (.int .i64 h) ∧ w'.cell? ⟨w.heap.size, 1, none⟩ = some (.int .i64 o) ∧ w'.cell? ⟨w.heap.size, 2, none⟩ = some (vp) ∧ w'.cell? ⟨w.heap.size, 3, none⟩ = some (.int .u32 hp) ∧ w'.cell? ⟨w.heap.size, 4, none⟩ = some (.int .u32 md) ∧ w'.cell? ⟨w.heap.size, 5, none⟩ = some (.int .u32 pr) ∧ w'.cell? ⟨w.heap.size, 6, none⟩ = some (.int .u32 ag) ∧ w'.cell? ⟨w.heap.size, 7, none⟩ = some (.int .u32 ai) ∧ w'.cell? ⟨w.heap.size, 8, none⟩ = some (.slice Ac cl cc))) (by kernel_rfl) (HKC.out _ BW.out) (fun hHeld => ?_)
  refine wpAnyH_take (i := 0) (oi := ⟨some 3, .load 26 (.tmp 1), 26, "ref.go:65", #[], none⟩) (v := ?_) rfl (by kernel_rfl) (by kernel_rfl) (by kernel_rfl) (fun _ _ _ h => h) (Or.inl ⟨by rfl, ?_⟩) hHeld ?_
  rotate_left
  · (intro w hSw; (try dsimp only at hSw); go_simp)
    try with_reducible rfl
  try simp only [Act.put, List.setIfInBounds_toArray, List.set_cons_zero, List.set_cons_succ]
  refine wpAnyH_take (i := 2) (oi := ⟨some 5, .load 26 (.tmp 1), 26, "ref.go:65", #[], none⟩) (v := ?_) rfl (by kernel_rfl) (by kernel_rfl) (by kernel_rfl) (fun _ _ _ h => h) (Or.inl ⟨by rfl, ?_⟩) hHeld ?_
  rotate_left
  · (intro w hSw; (try dsimp only at hSw); go_simp)
    try with_reducible rfl
  try simp only [Act.put, List.setIfInBounds_toArray, List.set_cons_zero, List.set_cons_succ]
  refine wpAnyH_ready (rs := [1]) (by kernel_rfl) (by simp) ?_
  refine AllReadyH.cons (o := ⟨some 4, .call { callee := .value (.func 11), args := #[.tmp 3], argTypes := #[26] }, 26, "ref.go:65", #[⟨0, .data⟩], none⟩) rfl (fun K hK => ?_) AllReadyH.nil
  go_simp
  go_at_call 11; refine (CN.out _ (HBW.out _ BW.out)).mono ?_; rintro e x ⟨v1, rfl, ha, hb⟩; have U := Go.Lib.hid ha; clear ha; replace BW := Go.Lib.hid (BW.out.trans (hb.mono BW.out.size)); clear hb
  (try go_wp2_with fail)
  refine hK.out _ _ (HKC.out _ BW.out) (fun hHeld1 => ?_)
  clear hK K
  try simp only [Act.put, List.setIfInBounds_toArray, List.set_cons_zero, List.set_cons_succ]
  refine wpAnyH_ready (rs := [3]) (by kernel_rfl) (by simp) ?_
  refine AllReadyH.cons (o := ⟨some 6, .call { callee := .value (.func 9), args := #[.tmp 4, .tmp 5], argTypes := #[26, 26] }, 4, "ref.go:65", #[⟨1, .data⟩, ⟨2, .data⟩, ⟨1, .chain⟩], none⟩) rfl (fun K hK => ?_) AllReadyH.nil
  go_simp
  go_at_call 9; refine (CM.out _ _ U.out (HBW.out _ BW.out)).mono ?_; rintro e x ⟨rfl, hb⟩; replace BW := Go.Lib.hid (BW.out.trans (hb.mono BW.out.size)); clear hb
  (try go_wp2_with fail)
  refine hK.out _ _ (HKC.out _ BW.out) (fun hHeld2 => ?_)
  clear hK K
  try simp only [Act.put, List.setIfInBounds_toArray, List.set_cons_zero, List.set_cons_succ]
  refine wpAnyH_take (i := 4) (oi := ⟨some 7, .move (.tmp 6), 4, "ref.go:65", #[⟨3, .data⟩, ⟨3, .chain⟩], none⟩) (v := ?_) rfl (by kernel_rfl) (by kernel_rfl) (by kernel_rfl) (fun _ _ _ h => h) (Or.inl ⟨by rfl, ?_⟩) hHeld2 ?_
  rotate_left
  · (intro w hSw; (try dsimp only at hSw); go_simp)
    try with_reducible rfl
  try simp only [Act.put, List.setIfInBounds_toArray, List.set_cons_zero, List.set_cons_succ]
  refine wpAnyH_take (i := 5) (oi := ⟨some 8, .fieldAddr 26 (.tmp 1) 1, 0, "ref.go:65", #[⟨4, .guard⟩], some (4, true)⟩) (v := undef) rfl (by kernel_rfl) (by kernel_rfl) (by kernel_rfl) (fun _ _ _ h => h) (Or.inr ⟨by rfl, rfl⟩) hHeld2 ?_
  try simp only [Act.put, List.setIfInBounds_toArray, List.set_cons_zero, List.set_cons_succ]
  refine wpAnyH_take (i := 6) (oi := ⟨some 9, .load 3 (.tmp 8), 3, "ref.go:65", #[⟨5, .data⟩, ⟨4, .guard⟩], some (4, true)⟩) (v := undef) rfl (by kernel_rfl) (by kernel_rfl) (by kernel_rfl) (fun _ _ _ h => h) (Or.inr ⟨by rfl, rfl⟩) hHeld2 ?_
  try simp only [Act.put, List.setIfInBounds_toArray, List.set_cons_zero, List.set_cons_succ]
  refine wpAnyH_take (i := 7) (oi := ⟨some 10, .binOp .geq 3 (.tmp 9) (.const (.int .i64 0)) 3, 4, "ref.go:65", #[⟨6, .data⟩, ⟨4, .guard⟩], some (4, true)⟩) (v := undef) rfl (by kernel_rfl) (by kernel_rfl) (by kernel_rfl) (fun _ _ _ h => h) (Or.inr ⟨by rfl, rfl⟩) hHeld2 ?_
  try simp only [Act.put, List.setIfInBounds_toArray, List.set_cons_zero, List.set_cons_succ]
  refine wpAnyH_take (i := 8) (oi := ⟨some 11, .pick (.tmp 7) (.tmp 10) (.const (.bool false)), 4, "ref.go:65", #[⟨4, .data⟩, ⟨7, .data⟩], none⟩) (v := ?_) rfl (by kernel_rfl) (by kernel_rfl) (by kernel_rfl) (fun _ _ _ h => h) (Or.inl ⟨by rfl, ?_⟩) hHeld2 ?_
  rotate_left
  · (intro w hSw; (try dsimp only at hSw); go_simp)
    try with_reducible rfl
  try simp only [Act.put, List.setIfInBounds_toArray, List.set_cons_zero, List.set_cons_succ]
  refine wpAnyH_take (i := 9) (oi := ⟨some 12, .move (.tmp 11), 4, "ref.go:65", #[⟨8, .data⟩, ⟨4, .chain⟩], none⟩) (v := ?_) rfl (by kernel_rfl) (by kernel_rfl) (by kernel_rfl) (fun _ _ _ h => h) (Or.inl ⟨by rfl, ?_⟩) hHeld2 ?_
  rotate_left
  · (intro w hSw; (try dsimp only at hSw); go_simp)
    try with_reducible rfl
  try simp only [Act.put, List.setIfInBounds_toArray, List.set_cons_zero, List.set_cons_succ]
  refine wpAnyH_take (i := 10) (oi := ⟨some 13, .fieldAddr 26 (.tmp 1) 1, 0, "ref.go:65", #[⟨9, .guard⟩], some (9, true)⟩) (v := undef) rfl (by kernel_rfl) (by kernel_rfl) (by kernel_rfl) (fun _ _ _ h => h) (Or.inr ⟨by rfl, rfl⟩) hHeld2 ?_
  try simp only [Act.put, List.setIfInBounds_toArray, List.set_cons_zero, List.set_cons_succ]
  refine wpAnyH_take (i := 11) (oi := ⟨some 14, .load 3 (.tmp 13), 3, "ref.go:65", #[⟨10, .data⟩, ⟨9, .guard⟩], some (9, true)⟩) (v := undef) rfl (by kernel_rfl) (by kernel_rfl) (by kernel_rfl) (fun _ _ _ h => h) (Or.inr ⟨by rfl, rfl⟩) hHeld2 ?_
  try simp only [Act.put, List.setIfInBounds_toArray, List.set_cons_zero, List.set_cons_succ]
  refine wpAnyH_take (i := 12) (oi := ⟨some 15, .binOp .leq 3 (.tmp 14) (.const (.int .i64 2)) 3, 4, "ref.go:65", #[⟨11, .data⟩, ⟨9, .guard⟩], some (9, true)⟩) (v := undef) rfl (by kernel_rfl) (by kernel_rfl) (by kernel_rfl) (fun _ _ _ h => h) (Or.inr ⟨by rfl, rfl⟩) hHeld2 ?_
  try simp only [Act.put, List.setIfInBounds_toArray, List.set_cons_zero, List.set_cons_succ]
  refine wpAnyH_take (i := 13) (oi := ⟨some 16, .pick (.tmp 12) (.tmp 15) (.const (.bool false)), 4, "ref.go:65", #[⟨9, .data⟩, ⟨12, .data⟩], none⟩) (v := ?_) rfl (by kernel_rfl) (by kernel_rfl) (by kernel_rfl) (fun _ _ _ h => h) (Or.inl ⟨by rfl, ?_⟩) hHeld2 ?_
  rotate_left
  · (intro w hSw; (try dsimp only at hSw); go_simp)
    try with_reducible rfl
  try simp only [Act.put, List.setIfInBounds_toArray, List.set_cons_zero, List.set_cons_succ]
  refine wpAnyH_take (i := 14) (oi := ⟨some 17, .move (.tmp 16), 4, "ref.go:65", #[⟨13, .data⟩, ⟨9, .chain⟩], none⟩) (v := ?_) rfl (by kernel_rfl) (by kernel_rfl) (by kernel_rfl) (fun _ _ _ h => h) (Or.inl ⟨by rfl, ?_⟩) hHeld2 ?_
  rotate_left
  · (intro w hSw; (try dsimp only at hSw); go_simp)
    try with_reducible rfl
  try simp only [Act.put, List.setIfInBounds_toArray, List.set_cons_zero, List.set_cons_succ]
  refine wpAnyH_take (i := 15) (oi := ⟨some 18, .fieldAddr 26 (.tmp 1) 2, 0, "ref.go:65", #[⟨14, .guard⟩], some (14, true)⟩) (v := undef) rfl (by kernel_rfl) (by kernel_rfl) (by kernel_rfl) (fun _ _ _ h => h) (Or.inr ⟨by rfl, rfl⟩) hHeld2 ?_
  try simp only [Act.put, List.setIfInBounds_toArray, List.set_cons_zero, List.set_cons_succ]
  refine wpAnyH_take (i := 16) (oi := ⟨some 19, .load 22 (.tmp 18), 22, "ref.go:65", #[⟨15, .data⟩, ⟨14, .guard⟩], some (14, true)⟩) (v := undef) rfl (by kernel_rfl) (by kernel_rfl) (by kernel_rfl) (fun _ _ _ h => h) (Or.inr ⟨by rfl, rfl⟩) hHeld2 ?_
  try simp only [Act.put, List.setIfInBounds_toArray, List.set_cons_zero, List.set_cons_succ]
  refine wpAnyH_take (i := 17) (oi := ⟨some 20, .call { callee := .value (.func 34), args := #[.tmp 19], argTypes := #[22] }, 4, "ref.go:65", #[⟨16, .data⟩, ⟨14, .chain⟩, ⟨14, .guard⟩], some (14, true)⟩) (v := undef) rfl (by kernel_rfl) (by kernel_rfl) (by kernel_rfl) (fun _ _ _ h => h) (Or.inr ⟨by rfl, rfl⟩) hHeld2 ?_
  try simp only [Act.put, List.setIfInBounds_toArray, List.set_cons_zero, List.set_cons_succ]
  refine wpAnyH_take (i := 18) (oi := ⟨some 21, .pick (.tmp 17) (.tmp 20) (.const (.bool false)), 4, "ref.go:65", #[⟨14, .data⟩, ⟨17, .data⟩], none⟩) (v := ?_) rfl (by kernel_rfl) (by kernel_rfl) (by kernel_rfl) (fun _ _ _ h => h) (Or.inl ⟨by rfl, ?_⟩) hHeld2 ?_
  rotate_left
  · (intro w hSw; (try dsimp only at hSw); go_simp)
    try with_reducible rfl
  try simp only [Act.put, List.setIfInBounds_toArray, List.set_cons_zero, List.set_cons_succ]
  refine wpAnyH_take (i := 19) (oi := ⟨some 22, .move (.tmp 21), 4, "ref.go:65", #[⟨18, .data⟩, ⟨17, .chain⟩], none⟩) (v := ?_) rfl (by kernel_rfl) (by kernel_rfl) (by kernel_rfl) (fun _ _ _ h => h) (Or.inl ⟨by rfl, ?_⟩) hHeld2 ?_
  rotate_left
  · (intro w hSw; (try dsimp only at hSw); go_simp)
    try with_reducible rfl
  try simp only [Act.put, List.setIfInBounds_toArray, List.set_cons_zero, List.set_cons_succ]
  refine wpAnyH_take (i := 20) (oi := ⟨some 23, .load 26 (.tmp 1), 26, "ref.go:65", #[⟨19, .guard⟩], some (19, true)⟩) (v := undef) rfl (by kernel_rfl) (by kernel_rfl) (by kernel_rfl) (fun _ _ _ h => h) (Or.inr ⟨by rfl, rfl⟩) hHeld2 ?_
  try simp only [Act.put, List.setIfInBounds_toArray, List.set_cons_zero, List.set_cons_succ]
  refine wpAnyH_take (i := 21) (oi := ⟨some 24, .call { callee := .value (.func 17), args := #[.tmp 23, .const (.int .i64 3)], argTypes := #[26, 3] }, 4, "ref.go:65", #[⟨20, .data⟩, ⟨19, .chain⟩, ⟨19, .guard⟩], some (19, true)⟩) (v := undef) rfl (by kernel_rfl) (by kernel_rfl) (by kernel_rfl) (fun _ _ _ h => h) (Or.inr ⟨by rfl, rfl⟩) hHeld2 ?_
  try simp only [Act.put, List.setIfInBounds_toArray, List.set_cons_zero, List.set_cons_succ]
  refine wpAnyH_take (i := 22) (oi := ⟨some 25, .unOp .not 4 (.tmp 24), 4, "ref.go:65", #[⟨21, .data⟩, ⟨19, .guard⟩], some (19, true)⟩) (v := undef) rfl (by kernel_rfl) (by kernel_rfl) (by kernel_rfl) (fun _ _ _ h => h) (Or.inr ⟨by rfl, rfl⟩) hHeld2 ?_
  try simp only [Act.put, List.setIfInBounds_toArray, List.set_cons_zero, List.set_cons_succ]
  refine wpAnyH_take (i := 23) (oi := ⟨some 26, .move (.tmp 25), 4, "ref.go:65", #[⟨22, .data⟩, ⟨21, .chain⟩, ⟨19, .guard⟩], some (19, true)⟩) (v := undef) rfl (by kernel_rfl) (by kernel_rfl) (by kernel_rfl) (fun _ _ _ h => h) (Or.inr ⟨by rfl, rfl⟩) hHeld2 ?_
  try simp only [Act.put, List.setIfInBounds_toArray, List.set_cons_zero, List.set_cons_succ]
  refine wpAnyH_take (i := 24) (oi := ⟨some 27, .fieldAddr 26 (.tmp 1) 3, 0, "ref.go:65", #[⟨23, .guard⟩], some (23, false)⟩) (v := undef) rfl (by kernel_rfl) (by kernel_rfl) (by kernel_rfl) (fun _ _ _ h => h) (Or.inr ⟨by rfl, rfl⟩) hHeld2 ?_
  try simp only [Act.put, List.setIfInBounds_toArray, List.set_cons_zero, List.set_cons_succ]
  refine wpAnyH_take (i := 25) (oi := ⟨some 28, .load 23 (.tmp 27), 23, "ref.go:65", #[⟨24, .data⟩, ⟨23, .guard⟩], some (23, false)⟩) (v := undef) rfl (by kernel_rfl) (by kernel_rfl) (by kernel_rfl) (fun _ _ _ h => h) (Or.inr ⟨by rfl, rfl⟩) hHeld2 ?_
  try simp only [Act.put, List.setIfInBounds_toArray, List.set_cons_zero, List.set_cons_succ]
  refine wpAnyH_take (i := 26) (oi := ⟨some 29, .call { callee := .value (.func 16), args := #[.tmp 28], argTypes := #[23] }, 4, "ref.go:65", #[⟨25, .data⟩, ⟨23, .chain⟩, ⟨23, .guard⟩], some (23, false)⟩) (v := undef) rfl (by kernel_rfl) (by kernel_rfl) (by kernel_rfl) (fun _ _ _ h => h) (Or.inr ⟨by rfl, rfl⟩) hHeld2 ?_
  try simp only [Act.put, List.setIfInBounds_toArray, List.set_cons_zero, List.set_cons_succ]
  refine wpAnyH_take (i := 27) (oi := ⟨some 30, .pick (.tmp 26) (.const (.bool true)) (.tmp 29), 4, "ref.go:65", #[⟨23, .data⟩, ⟨26, .data⟩, ⟨19, .guard⟩], some (19, true)⟩) (v := undef) rfl (by kernel_rfl) (by kernel_rfl) (by kernel_rfl) (fun _ _ _ h => h) (Or.inr ⟨by rfl, rfl⟩) hHeld2 ?_
  try simp only [Act.put, List.setIfInBounds_toArray, List.set_cons_zero, List.set_cons_succ]
  refine wpAnyH_take (i := 28) (oi := ⟨some 31, .pick (.tmp 22) (.tmp 30) (.const (.bool false)), 4, "ref.go:65", #[⟨19, .data⟩, ⟨27, .data⟩], none⟩) (v := ?_) rfl (by kernel_rfl) (by kernel_rfl) (by kernel_rfl) (fun _ _ _ h => h) (Or.inl ⟨by rfl, ?_⟩) hHeld2 ?_
  rotate_left
  · (intro w hSw; (try dsimp only at hSw); go_simp)
    try with_reducible rfl
  try simp only [Act.put, List.setIfInBounds_toArray, List.set_cons_zero, List.set_cons_succ]
  refine wpAnyH_take (i := 29) (oi := ⟨some 32, .move (.tmp 31), 4, "ref.go:65", #[⟨28, .data⟩, ⟨26, .chain⟩], none⟩) (v := ?_) rfl (by kernel_rfl) (by kernel_rfl) (by kernel_rfl) (fun _ _ _ h => h) (Or.inl ⟨by rfl, ?_⟩) hHeld2 ?_
  rotate_left
  · (intro w hSw; (try dsimp only at hSw); go_simp)
    try with_reducible rfl
  try simp only [Act.put, List.setIfInBounds_toArray, List.set_cons_zero, List.set_cons_succ]
  refine wpAnyH_take (i := 30) (oi := ⟨some 33, .fieldAddr 26 (.tmp 1) 8, 0, "ref.go:65", #[⟨29, .guard⟩], some (29, true)⟩) (v := undef) rfl (by kernel_rfl) (by kernel_rfl) (by kernel_rfl) (fun _ _ _ h => h) (Or.inr ⟨by rfl, rfl⟩) hHeld2 ?_
  try simp only [Act.put, List.setIfInBounds_toArray, List.set_cons_zero, List.set_cons_succ]
  refine wpAnyH_take (i := 31) (oi := ⟨some 34, .load 24 (.tmp 33), 24, "ref.go:65", #[⟨30, .data⟩, ⟨29, .guard⟩], some (29, true)⟩) (v := undef) rfl (by kernel_rfl) (by kernel_rfl) (by kernel_rfl) (fun _ _ _ h => h) (Or.inr ⟨by rfl, rfl⟩) hHeld2 ?_
  try simp only [Act.put, List.setIfInBounds_toArray, List.set_cons_zero, List.set_cons_succ]
  refine wpAnyH_take (i := 32) (oi := ⟨some 35, .call { callee := .builtin .len, args := #[.tmp 34], argTypes := #[24] }, 3, "ref.go:65", #[⟨31, .data⟩, ⟨29, .guard⟩], some (29, true)⟩) (v := undef) rfl (by kernel_rfl) (by kernel_rfl) (by kernel_rfl) (fun _ _ _ h => h) (Or.inr ⟨by rfl, rfl⟩) hHeld2 ?_
  try simp only [Act.put, List.setIfInBounds_toArray, List.set_cons_zero, List.set_cons_succ]
  refine wpAnyH_take (i := 33) (oi := ⟨some 36, .binOp .leq 3 (.tmp 35) (.const (.int .i64 255)) 3, 4, "ref.go:65", #[⟨32, .data⟩, ⟨29, .guard⟩], some (29, true)⟩) (v := undef) rfl (by kernel_rfl) (by kernel_rfl) (by kernel_rfl) (fun _ _ _ h => h) (Or.inr ⟨by rfl, rfl⟩) hHeld2 ?_
  try simp only [Act.put, List.setIfInBounds_toArray, List.set_cons_zero, List.set_cons_succ]
  refine wpAnyH_take (i := 34) (oi := ⟨some 37, .pick (.tmp 32) (.tmp 36) (.const (.bool false)), 4, "ref.go:65", #[⟨29, .data⟩, ⟨33, .data⟩], none⟩) (v := ?_) rfl (by kernel_rfl) (by kernel_rfl) (by kernel_rfl) (fun _ _ _ h => h) (Or.inl ⟨by rfl, ?_⟩) hHeld2 ?_
  rotate_left
  · (intro w hSw; (try dsimp only at hSw); go_simp)
    try with_reducible rfl
  try simp only [Act.put, List.setIfInBounds_toArray, List.set_cons_zero, List.set_cons_succ]
  refine wpAnyH_take (i := 35) (oi := ⟨some 2, .assign (.tmp 37), 4, "ref.go:65", #[⟨34, .data⟩, ⟨29, .chain⟩, ⟨0, .phase⟩, ⟨1, .phase⟩, ⟨2, .phase⟩, ⟨3, .phase⟩, ⟨4, .phase⟩, ⟨5, .phase⟩, ⟨6, .phase⟩, ⟨7, .phase⟩, ⟨8, .phase⟩, ⟨9, .phase⟩, ⟨10, .phase⟩, ⟨11, .phase⟩, ⟨12, .phase⟩, ⟨13, .phase⟩, ⟨14, .phase⟩, ⟨15, .phase⟩, ⟨16, .phase⟩, ⟨17, .phase⟩, ⟨18, .phase⟩, ⟨19, .phase⟩, ⟨20, .phase⟩, ⟨21, .phase⟩, ⟨22, .phase⟩, ⟨23, .phase⟩, ⟨24, .phase⟩, ⟨25, .phase⟩, ⟨26, .phase⟩, ⟨27, .phase⟩, ⟨28, .phase⟩, ⟨29, .phase⟩, ⟨30, .phase⟩, ⟨31, .phase⟩, ⟨32, .phase⟩, ⟨33, .phase⟩, ⟨34, .phase⟩], none⟩) (v := ?_) rfl (by kernel_rfl) (by kernel_rfl) (by kernel_rfl) (fun _ _ _ h => h) (Or.inl ⟨by rfl, ?_⟩) hHeld2 ?_
  rotate_left
  · (intro w hSw; (try dsimp only at hSw); go_simp)
    try with_reducible rfl
  try simp only [Act.put, List.setIfInBounds_toArray, List.set_cons_zero, List.set_cons_succ]
  refine wpAnyH_done (by kernel_rfl) ?_ _
  refine NoPanic.normal ?_
  go_wp2
  go_ret
  exact ⟨rfl, HBW.out _ BW.out⟩
set_option maxRecDepth 100000 in
set_option maxHeartbeats 8000000 in
theorem good_o (h o : Int) (vp : Value) (Ac : Option Addr) (cl cc : Nat) (hp md pr ag ai : Nat) (w : World) (An : At)
    (CN : Hid (∀ W, Below w.heap.size w W → Calls Tryd.prog 11 #[.agg #[.int .i64 h, .int .i64 o, vp, .int .u32 hp, .int .u32 md, .int .u32 pr, .int .u32 ag, .int .u32 ai, .slice Ac cl cc]] W (fun e w' => ∃ v, e = .returned v ∧ Attrs w' v An ∧ Below W.heap.size W w')))
    (CM : Hid (∀ v W, Attrs W v An → Below w.heap.size w W → Calls Tryd.prog 9 #[v, .agg #[.int .i64 h, .int .i64 o, vp, .int .u32 hp, .int .u32 md, .int .u32 pr, .int .u32 ag, .int .u32 ai, .slice Ac cl cc]] W (Tells (.bool true) W)))
    (z0 : decide (0 ≤ o) = false) : Calls Tryd.prog 8 #[.agg #[.int .i64 h, .int .i64 o, vp, .int .u32 hp, .int .u32 md, .int .u32 pr, .int .u32 ag, .int .u32 ai, .slice Ac cl cc]] w (Tells (.bool false) w) := by
  have HB := Go.Lib.hid ((Below.refl _ w).alloc (Nat.le_refl _) (.cells #[.int .i64 h, .int .i64 o, vp, .int .u32 hp, .int .u32 md, .int .u32 pr, .int .u32 ag, .int .u32 ai, .slice Ac cl cc] 26))
  have HC := Go.Lib.hid (Box9.new w 26 (.int .i64 h) (.int .i64 o) (vp) (.int .u32 hp) (.int .u32 md) (.int .u32 pr) (.int .u32 ag) (.int .u32 ai) (.slice Ac cl cc))
  go_enter Tryd.func8, Tryd.ntmps8
  go_wp2
  have HKC := Go.Lib.hid (fun (W : World) (h : Below (w.alloc (.cells #[.int .i64 h, .int .i64 o, vp, .int .u32 hp, .int .u32 md, .int .u32 pr, .int .u32 ag, .int .u32 ai, .slice Ac cl cc] 26)).heap.size (w.alloc (.cells #[.int .i64 h, .int .i64 o, vp, .int .u32 hp, .int .u32 md, .int .u32 pr, .int .u32 ag, .int .u32 ai, .slice Ac cl cc] 26)) W) => (HC.out.keep h).cells)
  have HBW := Go.Lib.hid (fun (W : World) (h : Below (w.alloc (.cells #[.int .i64 h, .int .i64 o, vp, .int .u32 hp, .int .u32 md, .int .u32 pr, .int .u32 ag, .int .u32 ai, .slice Ac cl cc] 26)).heap.size (w.alloc (.cells #[.int .i64 h, .int .i64 o, vp, .int .u32 hp, .int .u32 md, .int .u32 pr, .int .u32 ag, .int .u32 ai, .slice Ac cl cc] 26)) W) => HB.out.trans (h.mono HB.out.size))
  have BW := Go.Lib.hid ((Below.refl (w.alloc (.cells #[.int .i64 h, .int .i64 o, vp, .int .u32 hp, .int .u32 md, .int .u32 pr, .int .u32 ag, .int .u32 ai, .slice Ac cl cc] 26)).heap.size (w.alloc (.cells #[.int .i64 h, .int .i64 o, vp, .int .u32 hp, .int .u32 md, .int .u32 pr, .int .u32 ag, .int .u32 ai, .slice Ac cl cc] 26))).drew)
  refine wp_region_noPanic ?_
  refine wp_region_held_drew (S := (fun w' => w'.cell? ⟨w.heap.size, 0, none⟩ = some (.int .i64 h) ∧ w'.cell? ⟨w.heap.size, 1, none⟩ = some (.int .i64 o) ∧ w'.cell? ⟨w.heap.size, 2, none⟩ = some (vp) ∧ w'.cell? ⟨w.heap.size, 3, none⟩ = some (.int .u32 hp) ∧ w'.cell? ⟨w.heap.size, 4, none⟩ = some (.int .u32 md) ∧ w'.cell? ⟨w.heap.size, 5, none⟩ = some (.int .u32 pr) ∧ w'.cell? ⟨w.heap.size, 6, none⟩ = some (.int .u32 ag) ∧ w'.cell? ⟨w.heap.size, 7, none⟩ = some (.int .u32 ai) ∧ w'.cell? ⟨w.heap.size, 8, none⟩ = some (.slice Ac cl cc))) (by kernel_rfl) (HKC.out _ BW.out) (fun hHeld => ?_)
  refine wpAnyH_take (i := 0) (oi := ⟨some 3, .load 26 (.tmp 1), 26, "ref.go:65", #[], none⟩) (v := ?_) rfl (by kernel_rfl) (by kernel_rfl) (by kernel_rfl) (fun _ _ _ h => h) (Or.inl ⟨by rfl, ?_⟩) hHeld ?_
  rotate_left
  · (intro w hSw; (try dsimp only at hSw); go_simp)
    try with_reducible rfl
  try simp only [Act.put, List.setIfInBounds_toArray, List.set_cons_zero, List.set_cons_succ]
  refine wpAnyH_take (i := 2) (oi := ⟨some 5, .load 26 (.tmp 1), 26, "ref.go:65", #[], none⟩) (v := ?_) rfl (by kernel_rfl) (by kernel_rfl) (by kernel_rfl) (fun _ _ _ h => h) (Or.inl ⟨by rfl, ?_⟩) hHeld ?_
  rotate_left
  · (intro w hSw; (try dsimp only at hSw); go_simp)
    try with_reducible rfl
  try simp only [Act.put, List.setIfInBounds_toArray, List.set_cons_zero, List.set_cons_succ]
  refine wpAnyH_ready (rs := [1]) (by kernel_rfl) (by simp) ?_
  refine AllReadyH.cons (o := ⟨some 4, .call { callee := .value (.func 11), args := #[.tmp 3], argTypes := #[26] }, 26, "ref.go:65", #[⟨0, .data⟩], none⟩) rfl (fun K hK => ?_) AllReadyH.nil
  go_simp
  go_at_call 11; refine (CN.out _ (HBW.out _ BW.out)).mono ?_; rintro e x ⟨v1, rfl, ha, hb⟩; have U := Go.Lib.hid ha; clear ha; replace BW := Go.Lib.hid (BW.out.trans (hb.mono BW.out.size)); clear hb
  (try go_wp2_with fail)
  refine hK.out _ _ (HKC.out _ BW.out) (fun hHeld1 => ?_)
  clear hK K
  try simp only [Act.put, List.setIfInBounds_toArray, List.set_cons_zero, List.set_cons_succ]
  refine wpAnyH_ready (rs := [3]) (by kernel_rfl) (by simp) ?_
  refine AllReadyH.cons (o := ⟨some 6, .call { callee := .value (.func 9), args := #[.tmp 4, .tmp 5], argTypes := #[26, 26] }, 4, "ref.go:65", #[⟨1, .data⟩, ⟨2, .data⟩, ⟨1, .chain⟩], none⟩) rfl (fun K hK => ?_) AllReadyH.nil
  go_simp
  go_at_call 9; refine (CM.out _ _ U.out (HBW.out _ BW.out)).mono ?_; rintro e x ⟨rfl, hb⟩; replace BW := Go.Lib.hid (BW.out.trans (hb.mono BW.out.size)); clear hb
  (try go_wp2_with fail)
  refine hK.out _ _ (HKC.out _ BW.out) (fun hHeld2 => ?_)
  clear hK K
  try simp only [Act.put, List.setIfInBounds_toArray, List.set_cons_zero, List.set_cons_succ]
  refine wpAnyH_take (i := 4) (oi := ⟨some 7, .move (.tmp 6), 4, "ref.go:65", #[⟨3, .data⟩, ⟨3, .chain⟩], none⟩) (v := ?_) rfl (by kernel_rfl) (by kernel_rfl) (by kernel_rfl) (fun _ _ _ h => h) (Or.inl ⟨by rfl, ?_⟩) hHeld2 ?_
  rotate_left
  · (intro w hSw; (try dsimp only at hSw); go_simp)
    try with_reducible rfl
  try simp only [Act.put, List.setIfInBounds_toArray, List.set_cons_zero, List.set_cons_succ]
  refine wpAnyH_take (i := 5) (oi := ⟨some 8, .fieldAddr 26 (.tmp 1) 1, 0, "ref.go:65", #[⟨4, .guard⟩], some (4, true)⟩) (v := ?_) rfl (by kernel_rfl) (by kernel_rfl) (by kernel_rfl) (fun _ _ _ h => h) (Or.inl ⟨by rfl, ?_⟩) hHeld2 ?_
  rotate_left
  · (intro w hSw; (try dsimp only at hSw); go_simp)
    try with_reducible rfl
  try simp only [Act.put, List.setIfInBounds_toArray, List.set_cons_zero, List.set_cons_succ]
  refine wpAnyH_take (i := 6) (oi := ⟨some 9, .load 3 (.tmp 8), 3, "ref.go:65", #[⟨5, .data⟩, ⟨4, .guard⟩], some (4, true)⟩) (v := ?_) rfl (by kernel_rfl) (by kernel_rfl) (by kernel_rfl) (fun _ _ _ h => h) (Or.inl ⟨by rfl, ?_⟩) hHeld2 ?_
  rotate_left
  · (intro w hSw; (try dsimp only at hSw); go_simp)
    try with_reducible rfl
  try simp only [Act.put, List.setIfInBounds_toArray, List.set_cons_zero, List.set_cons_succ]
  refine wpAnyH_take (i := 7) (oi := ⟨some 10, .binOp .geq 3 (.tmp 9) (.const (.int .i64 0)) 3, 4, "ref.go:65", #[⟨6, .data⟩, ⟨4, .guard⟩], some (4, true)⟩) (v := ?_) rfl (by kernel_rfl) (by kernel_rfl) (by kernel_rfl) (fun _ _ _ h => h) (Or.inl ⟨by rfl, ?_⟩) hHeld2 ?_
  rotate_left
  · (intro w hSw; (try dsimp only at hSw); go_simp)
    try with_reducible rfl
  try simp only [Act.put, List.setIfInBounds_toArray, List.set_cons_zero, List.set_cons_succ]
  refine wpAnyH_take (i := 8) (oi := ⟨some 11, .pick (.tmp 7) (.tmp 10) (.const (.bool false)), 4, "ref.go:65", #[⟨4, .data⟩, ⟨7, .data⟩], none⟩) (v := ?_) rfl (by kernel_rfl) (by kernel_rfl) (by kernel_rfl) (fun _ _ _ h => h) (Or.inl ⟨by rfl, ?_⟩) hHeld2 ?_
  rotate_left
  · (intro w hSw; (try dsimp only at hSw); go_simp)
    try with_reducible rfl
  try simp only [Act.put, List.setIfInBounds_toArray, List.set_cons_zero, List.set_cons_succ]
  refine wpAnyH_take (i := 9) (oi := ⟨some 12, .move (.tmp 11), 4, "ref.go:65", #[⟨8, .data⟩, ⟨4, .chain⟩], none⟩) (v := ?_) rfl (by kernel_rfl) (by kernel_rfl) (by kernel_rfl) (fun _ _ _ h => h) (Or.inl ⟨by rfl, ?_⟩) hHeld2 ?_
  rotate_left
  · (intro w hSw; (try dsimp only at hSw); go_simp)
    try with_reducible rfl
  try simp only [Act.put, List.setIfInBounds_toArray, List.set_cons_zero, List.set_cons_succ]
  refine wpAnyH_take (i := 10) (oi := ⟨some 13, .fieldAddr 26 (.tmp 1) 1, 0, "ref.go:65", #[⟨9, .guard⟩], some (9, true)⟩) (v := undef) rfl (by kernel_rfl) (by kernel_rfl) (by kernel_rfl) (fun _ _ _ h => h) (Or.inr ⟨by rfl, rfl⟩) hHeld2 ?_
  try simp only [Act.put, List.setIfInBounds_toArray, List.set_cons_zero, List.set_cons_succ]
  refine wpAnyH_take (i := 11) (oi := ⟨some 14, .load 3 (.tmp 13), 3, "ref.go:65", #[⟨10, .data⟩, ⟨9, .guard⟩], some (9, true)⟩) (v := undef) rfl (by kernel_rfl) (by kernel_rfl) (by kernel_rfl) (fun _ _ _ h => h) (Or.inr ⟨by rfl, rfl⟩) hHeld2 ?_
  try simp only [Act.put, List.setIfInBounds_toArray, List.set_cons_zero, List.set_cons_succ]
  refine wpAnyH_take (i := 12) (oi := ⟨some 15, .binOp .leq 3 (.tmp 14) (.const (.int .i64 2)) 3, 4, "ref.go:65", #[⟨11, .data⟩, ⟨9, .guard⟩], some (9, true)⟩) (v := undef) rfl (by kernel_rfl) (by kernel_rfl) (by kernel_rfl) (fun _ _ _ h => h) (Or.inr ⟨by rfl, rfl⟩) hHeld2 ?_
  try simp only [Act.put, List.setIfInBounds_toArray, List.set_cons_zero, List.set_cons_succ]
  refine wpAnyH_take (i := 13) (oi := ⟨some 16, .pick (.tmp 12) (.tmp 15) (.const (.bool false)), 4, "ref.go:65", #[⟨9, .data⟩, ⟨12, .data⟩], none⟩) (v := ?_) rfl (by kernel_rfl) (by kernel_rfl) (by kernel_rfl) (fun _ _ _ h => h) (Or.inl ⟨by rfl, ?_⟩) hHeld2 ?_
  rotate_left
  · (intro w hSw; (try dsimp only at hSw); go_simp)
    try with_reducible rfl
  try simp only [Act.put, List.setIfInBounds_toArray, List.set_cons_zero, List.set_cons_succ]
  refine wpAnyH_take (i := 14) (oi := ⟨some 17, .move (.tmp 16), 4, "ref.go:65", #[⟨13, .data⟩, ⟨9, .chain⟩], none⟩) (v := ?_) rfl (by kernel_rfl) (by kernel_rfl) (by kernel_rfl) (fun _ _ _ h => h) (Or.inl ⟨by rfl, ?_⟩) hHeld2 ?_
  rotate_left
  · (intro w hSw; (try dsimp only at hSw); go_simp)
    try with_reducible rfl
  try simp only [Act.put, List.setIfInBounds_toArray, List.set_cons_zero, List.set_cons_succ]
  refine wpAnyH_take (i := 15) (oi := ⟨some 18, .fieldAddr 26 (.tmp 1) 2, 0, "ref.go:65", #[⟨14, .guard⟩], some (14, true)⟩) (v := undef) rfl (by kernel_rfl) (by kernel_rfl) (by kernel_rfl) (fun _ _ _ h => h) (Or.inr ⟨by rfl, rfl⟩) hHeld2 ?_
  try simp only [Act.put, List.setIfInBounds_toArray, List.set_cons_zero, List.set_cons_succ]
  refine wpAnyH_take (i := 16) (oi := ⟨some 19, .load 22 (.tmp 18), 22, "ref.go:65", #[⟨15, .data⟩, ⟨14, .guard⟩], some (14, true)⟩) (v := undef) rfl (by kernel_rfl) (by kernel_rfl) (by kernel_rfl) (fun _ _ _ h => h) (Or.inr ⟨by rfl, rfl⟩) hHeld2 ?_
  try simp only [Act.put, List.setIfInBounds_toArray, List.set_cons_zero, List.set_cons_succ]
  refine wpAnyH_take (i := 17) (oi := ⟨some 20, .call { callee := .value (.func 34), args := #[.tmp 19], argTypes := #[22] }, 4, "ref.go:65", #[⟨16, .data⟩, ⟨14, .chain⟩, ⟨14, .guard⟩], some (14, true)⟩) (v := undef) rfl (by kernel_rfl) (by kernel_rfl) (by kernel_rfl) (fun _ _ _ h => h) (Or.inr ⟨by rfl, rfl⟩) hHeld2 ?_
  try simp only [Act.put, List.setIfInBounds_toArray, List.set_cons_zero, List.set_cons_succ]
  refine wpAnyH_take (i := 18) (oi := ⟨some 21, .pick (.tmp 17) (.tmp 20) (.const (.bool false)), 4, "ref.go:65", #[⟨14, .data⟩, ⟨17, .data⟩], none⟩) (v := ?_) rfl (by kernel_rfl) (by kernel_rfl) (by kernel_rfl) (fun _ _ _ h => h) (Or.inl ⟨by rfl, ?_⟩) hHeld2 ?_
  rotate_left
  · (intro w hSw; (try dsimp only at hSw); go_simp)
    try with_reducible rfl
  try simp only [Act.put, List.setIfInBounds_toArray, List.set_cons_zero, List.set_cons_succ]
  refine wpAnyH_take (i := 19) (oi := ⟨some 22, .move (.tmp 21), 4, "ref.go:65", #[⟨18, .data⟩, ⟨17, .chain⟩], none⟩) (v := ?_) rfl (by kernel_rfl) (by kernel_rfl) (by kernel_rfl) (fun _ _ _ h => h) (Or.inl ⟨by rfl, ?_⟩) hHeld2 ?_
  rotate_left
  · (intro w hSw; (try dsimp only at hSw); go_simp)
    try with_reducible rfl
  try simp only [Act.put, List.setIfInBounds_toArray, List.set_cons_zero, List.set_cons_succ]
  refine wpAnyH_take (i := 20) (oi := ⟨some 23, .load 26 (.tmp 1), 26, "ref.go:65", #[⟨19, .guard⟩], some (19, true)⟩) (v := undef) rfl (by kernel_rfl) (by kernel_rfl) (by kernel_rfl) (fun _ _ _ h => h) (Or.inr ⟨by rfl, rfl⟩) hHeld2 ?_
  try simp only [Act.put, List.setIfInBounds_toArray, List.set_cons_zero, List.set_cons_succ]
  refine wpAnyH_take (i := 21) (oi := ⟨some 24, .call { callee := .value (.func 17), args := #[.tmp 23, .const (.int .i64 3)], argTypes := #[26, 3] }, 4, "ref.go:65", #[⟨20, .data⟩, ⟨19, .chain⟩, ⟨19, .guard⟩], some (19, true)⟩) (v := undef) rfl (by kernel_rfl) (by kernel_rfl) (by kernel_rfl) (fun _ _ _ h => h) (Or.inr ⟨by rfl, rfl⟩) hHeld2 ?_
  try simp only [Act.put, List.setIfInBounds_toArray, List.set_cons_zero, List.set_cons_succ]
  refine wpAnyH_take (i := 22) (oi := ⟨some 25, .unOp .not 4 (.tmp 24), 4, "ref.go:65", #[⟨21, .data⟩, ⟨19, .guard⟩], some (19, true)⟩) (v := undef) rfl (by kernel_rfl) (by kernel_rfl) (by kernel_rfl) (fun _ _ _ h => h) (Or.inr ⟨by rfl, rfl⟩) hHeld2 ?_
  try simp only [Act.put, List.setIfInBounds_toArray, List.set_cons_zero, List.set_cons_succ]
  refine wpAnyH_take (i := 23) (oi := ⟨some 26, .move (.tmp 25), 4, "ref.go:65", #[⟨22, .data⟩, ⟨21, .chain⟩, ⟨19, .guard⟩], some (19, true)⟩) (v := undef) rfl (by kernel_rfl) (by kernel_rfl) (by kernel_rfl) (fun _ _ _ h => h) (Or.inr ⟨by rfl, rfl⟩) hHeld2 ?_
  try simp only [Act.put, List.setIfInBounds_toArray, List.set_cons_zero, List.set_cons_succ]
  refine wpAnyH_take (i := 24) (oi := ⟨some 27, .fieldAddr 26 (.tmp 1) 3, 0, "ref.go:65", #[⟨23, .guard⟩], some (23, false)⟩) (v := undef) rfl (by kernel_rfl) (by kernel_rfl) (by kernel_rfl) (fun _ _ _ h => h) (Or.inr ⟨by rfl, rfl⟩) hHeld2 ?_
  try simp only [Act.put, List.setIfInBounds_toArray, List.set_cons_zero, List.set_cons_succ]
  refine wpAnyH_take (i := 25) (oi := ⟨some 28, .load 23 (.tmp 27), 23, "ref.go:65", #[⟨24, .data⟩, ⟨23, .guard⟩], some (23, false)⟩) (v := undef) rfl (by kernel_rfl) (by kernel_rfl) (by kernel_rfl) (fun _ _ _ h => h) (Or.inr ⟨by rfl, rfl⟩) hHeld2 ?_
  try simp only [Act.put, List.setIfInBounds_toArray, List.set_cons_zero, List.set_cons_succ]
  refine wpAnyH_take (i := 26) (oi := ⟨some 29, .call { callee := .value (.func 16), args := #[.tmp 28], argTypes := #[23] }, 4, "ref.go:65", #[⟨25, .data⟩, ⟨23, .chain⟩, ⟨23, .guard⟩], some (23, false)⟩) (v := undef) rfl (by kernel_rfl) (by kernel_rfl) (by kernel_rfl) (fun _ _ _ h => h) (Or.inr ⟨by rfl, rfl⟩) hHeld2 ?_
  try simp only [Act.put, List.setIfInBounds_toArray, List.set_cons_zero, List.set_cons_succ]
  refine wpAnyH_take (i := 27) (oi := ⟨some 30, .pick (.tmp 26) (.const (.bool true)) (.tmp 29), 4, "ref.go:65", #[⟨23, .data⟩, ⟨26, .data⟩, ⟨19, .guard⟩], some (19, true)⟩) (v := undef) rfl (by kernel_rfl) (by kernel_rfl) (by kernel_rfl) (fun _ _ _ h => h) (Or.inr ⟨by rfl, rfl⟩) hHeld2 ?_
  try simp only [Act.put, List.setIfInBounds_toArray, List.set_cons_zero, List.set_cons_succ]
  refine wpAnyH_take (i := 28) (oi := ⟨some 31, .pick (.tmp 22) (.tmp 30) (.const (.bool false)), 4, "ref.go:65", #[⟨19, .data⟩, ⟨27, .data⟩], none⟩) (v := ?_) rfl (by kernel_rfl) (by kernel_rfl) (by kernel_rfl) (fun _ _ _ h => h) (Or.inl ⟨by rfl, ?_⟩) hHeld2 ?_
  rotate_left
  · (intro w hSw; (try dsimp only at hSw); go_simp)
    try with_reducible rfl
  try simp only [Act.put, List.setIfInBounds_toArray, List.set_cons_zero, List.set_cons_succ]
  refine wpAnyH_take (i := 29) (oi := ⟨some 32, .move (.tmp 31), 4, "ref.go:65", #[⟨28, .data⟩, ⟨26, .chain⟩], none⟩) (v := ?_) rfl (by kernel_rfl) (by kernel_rfl) (by kernel_rfl) (fun _ _ _ h => h) (Or.inl ⟨by rfl, ?_⟩) hHeld2 ?_
  rotate_left
  · (intro w hSw; (try dsimp only at hSw); go_simp)
    try with_reducible rfl
  try simp only [Act.put, List.setIfInBounds_toArray, List.set_cons_zero, List.set_cons_succ]
  refine wpAnyH_take (i := 30) (oi := ⟨some 33, .fieldAddr 26 (.tmp 1) 8, 0, "ref.go:65", #[⟨29, .guard⟩], some (29, true)⟩) (v := undef) rfl (by kernel_rfl) (by kernel_rfl) (by kernel_rfl) (fun _ _ _ h => h) (Or.inr ⟨by rfl, rfl⟩) hHeld2 ?_
  try simp only [Act.put, List.setIfInBounds_toArray, List.set_cons_zero, List.set_cons_succ]
  refine wpAnyH_take (i := 31) (oi := ⟨some 34, .load 24 (.tmp 33), 24, "ref.go:65", #[⟨30, .data⟩, ⟨29, .guard⟩], some (29, true)⟩) (v := undef) rfl (by kernel_rfl) (by kernel_rfl) (by kernel_rfl) (fun _ _ _ h => h) (Or.inr ⟨by rfl, rfl⟩) hHeld2 ?_
  try simp only [Act.put, List.setIfInBounds_toArray, List.set_cons_zero, List.set_cons_succ]
  refine wpAnyH_take (i := 32) (oi := ⟨some 35, .call { callee := .builtin .len, args := #[.tmp 34], argTypes := #[24] }, 3, "ref.go:65", #[⟨31, .data⟩, ⟨29, .guard⟩], some (29, true)⟩) (v := undef) rfl (by kernel_rfl) (by kernel_rfl) (by kernel_rfl) (fun _ _ _ h => h) (Or.inr ⟨by rfl, rfl⟩) hHeld2 ?_
  try simp only [Act.put, List.setIfInBounds_toArray, List.set_cons_zero, List.set_cons_succ]
  refine wpAnyH_take (i := 33) (oi := ⟨some 36, .binOp .leq 3 (.tmp 35) (.const (.int .i64 255)) 3, 4, "ref.go:65", #[⟨32, .data⟩, ⟨29, .guard⟩], some (29, true)⟩) (v := undef) rfl (by kernel_rfl) (by kernel_rfl) (by kernel_rfl) (fun _ _ _ h => h) (Or.inr ⟨by rfl, rfl⟩) hHeld2 ?_
  try simp only [Act.put, List.setIfInBounds_toArray, List.set_cons_zero, List.set_cons_succ]
  refine wpAnyH_take (i := 34) (oi := ⟨some 37, .pick (.tmp 32) (.tmp 36) (.const (.bool false)), 4, "ref.go:65", #[⟨29, .data⟩, ⟨33, .data⟩], none⟩) (v := ?_) rfl (by kernel_rfl) (by kernel_rfl) (by kernel_rfl) (fun _ _ _ h => h) (Or.inl ⟨by rfl, ?_⟩) hHeld2 ?_
  rotate_left
  · (intro w hSw; (try dsimp only at hSw); go_simp)
    try with_reducible rfl
  try simp only [Act.put, List.setIfInBounds_toArray, List.set_cons_zero, List.set_cons_succ]
  refine wpAnyH_take (i := 35) (oi := ⟨some 2, .assign (.tmp 37), 4, "ref.go:65", #[⟨34, .data⟩, ⟨29, .chain⟩, ⟨0, .phase⟩, ⟨1, .phase⟩, ⟨2, .phase⟩, ⟨3, .phase⟩, ⟨4, .phase⟩, ⟨5, .phase⟩, ⟨6, .phase⟩, ⟨7, .phase⟩, ⟨8, .phase⟩, ⟨9, .phase⟩, ⟨10, .phase⟩, ⟨11, .phase⟩, ⟨12, .phase⟩, ⟨13, .phase⟩, ⟨14, .phase⟩, ⟨15, .phase⟩, ⟨16, .phase⟩, ⟨17, .phase⟩, ⟨18, .phase⟩, ⟨19, .phase⟩, ⟨20, .phase⟩, ⟨21, .phase⟩, ⟨22, .phase⟩, ⟨23, .phase⟩, ⟨24, .phase⟩, ⟨25, .phase⟩, ⟨26, .phase⟩, ⟨27, .phase⟩, ⟨28, .phase⟩, ⟨29, .phase⟩, ⟨30, .phase⟩, ⟨31, .phase⟩, ⟨32, .phase⟩, ⟨33, .phase⟩, ⟨34, .phase⟩], none⟩) (v := ?_) rfl (by kernel_rfl) (by kernel_rfl) (by kernel_rfl) (fun _ _ _ h => h) (Or.inl ⟨by rfl, ?_⟩) hHeld2 ?_
  rotate_left
  · (intro w hSw; (try dsimp only at hSw); go_simp)
    try with_reducible rfl
  try simp only [Act.put, List.setIfInBounds_toArray, List.set_cons_zero, List.set_cons_succ]
  refine wpAnyH_done (by kernel_rfl) ?_ _
  refine NoPanic.normal ?_
  go_wp2
  go_ret
  exact ⟨rfl, HBW.out _ BW.out⟩
set_option maxRecDepth 100000 in
set_option maxHeartbeats 8000000 in
theorem good_p (h o : Int) (vp : Value) (Ac : Option Addr) (cl cc : Nat) (hp md pr ag ai : Nat) (w : World) (An : At)
    (CN : Hid (∀ W, Below w.heap.size w W → Calls Tryd.prog 11 #[.agg #[.int .i64 h, .int .i64 o, vp, .int .u32 hp, .int .u32 md, .int .u32 pr, .int .u32 ag, .int .u32 ai, .slice Ac cl cc]] W (fun e w' => ∃ v, e = .returned v ∧ Attrs w' v An ∧ Below W.heap.size W w')))
    (CM : Hid (∀ v W, Attrs W v An → Below w.heap.size w W → Calls Tryd.prog 9 #[v, .agg #[.int .i64 h, .int .i64 o, vp, .int .u32 hp, .int .u32 md, .int .u32 pr, .int .u32 ag, .int .u32 ai, .slice Ac cl cc]] W (Tells (.bool true) W)))
    (z0 : 0 ≤ o) (z1 : decide (o ≤ 2) = false) : Calls Tryd.prog 8 #[.agg #[.int .i64 h, .int .i64 o, vp, .int .u32 hp, .int .u32 md, .int .u32 pr, .int .u32 ag, .int .u32 ai, .slice Ac cl cc]] w (Tells (.bool false) w) := by
  have HB := Go.Lib.hid ((Below.refl _ w).alloc (Nat.le_refl _) (.cells #[.int .i64 h, .int .i64 o, vp, .int .u32 hp, .int .u32 md, .int .u32 pr, .int .u32 ag, .int .u32 ai, .slice Ac cl cc] 26))
  have HC := Go.Lib.hid (Box9.new w 26 (.int .i64 h) (.int .i64 o) (vp) (.int .u32 hp) (.int .u32 md) (.int .u32 pr) (.int .u32 ag) (.int .u32 ai) (.slice Ac cl cc))
  go_enter Tryd.func8, Tryd.ntmps8
  go_wp2
  have HKC := Go.Lib.hid (fun (W : World) (h : Below (w.alloc (.cells #[.int .i64 h, .int .i64 o, vp, .int .u32 hp, .int .u32 md, .int .u32 pr, .int .u32 ag, .int .u32 ai, .slice Ac cl cc] 26)).heap.size (w.alloc (.cells #[.int .i64 h, .int .i64 o, vp, .int .u32 hp, .int .u32 md, .int .u32 pr, .int .u32 ag, .int .u32 ai, .slice Ac cl cc] 26)) W) => (HC.out.keep h).cells)
  have HBW := Go.Lib.hid (fun (W : World) (h : Below (w.alloc (.cells #[.int .i64 h, .int .i64 o, vp, .int .u32 hp, .int .u32 md, .int .u32 pr, .int .u32 ag, .int .u32 ai, .slice Ac cl cc] 26)).heap.size (w.alloc (.cells #[.int .i64 h, .int .i64 o, vp, .int .u32 hp, .int .u32 md, .int .u32 pr, .int .u32 ag, .int .u32 ai, .slice Ac cl cc] 26)) W) => HB.out.trans (h.mono HB.out.size))
  have BW := Go.Lib.hid ((Below.refl (w.alloc (.cells #[.int .i64 h, .int .i64 o, vp, .int .u32 hp, .int .u32 md, .int .u32 pr, .int .u32 ag, .int .u32 ai, .slice Ac cl cc] 26)).heap.size (w.alloc (.cells #[.int .i64 h, .int .i64 o, vp, .int .u32 hp, .int .u32 md, .int .u32 pr, .int .u32 ag, .int .u32 ai, .slice Ac cl cc] 26))).drew)
  refine wp_region_noPanic ?_
  refine wp_region_held_drew (S := (fun w' => w'.cell? ⟨w.heap.size, 0, none⟩ = some (.int .i64 h) ∧ w'.cell? ⟨w.heap.size, 1, none⟩ = some (.int .i64 o) ∧ w'.cell? ⟨w.heap.size, 2, none⟩ = some (vp) ∧ w'.cell? ⟨w.heap.size, 3, none⟩ = some (.int .u32 hp) ∧ w'.cell? ⟨w.heap.size, 4, none⟩ = some (.int .u32 md) ∧ w'.cell? ⟨w.heap.size, 5, none⟩ = some (.int .u32 pr) ∧ w'.cell? ⟨w.heap.size, 6, none⟩ = some (.int .u32 ag) ∧ w'.cell? ⟨w.heap.size, 7, none⟩ = some (.int .u32 ai) ∧ w'.cell? ⟨w.heap.size, 8, none⟩ = some (.slice Ac cl cc))) (by kernel_rfl) (HKC.out _ BW.out) (fun hHeld => ?_)
  refine wpAnyH_take (i := 0) (oi := ⟨some 3, .load 26 (.tmp 1), 26, "ref.go:65", #[], none⟩) (v := ?_) rfl (by kernel_rfl) (by kernel_rfl) (by kernel_rfl) (fun _ _ _ h => h) (Or.inl ⟨by rfl, ?_⟩) hHeld ?_
  rotate_left
  · (intro w hSw; (try dsimp only at hSw); go_simp)
    try with_reducible rfl
  try simp only [Act.put, List.setIfInBounds_toArray, List.set_cons_zero, List.set_cons_succ]
  refine wpAnyH_take (i := 2) (oi := ⟨some 5, .load 26 (.tmp 1), 26, "ref.go:65", #[], none⟩) (v := ?_) rfl (by kernel_rfl) (by kernel_rfl) (by kernel_rfl) (fun _ _ _ h => h) (Or.inl ⟨by rfl, ?_⟩) hHeld ?_
  rotate_left
  · (intro w hSw; (try dsimp only at hSw); go_simp)
    try with_reducible rfl
  try simp only [Act.put, List.setIfInBounds_toArray, List.set_cons_zero, List.set_cons_succ]
  refine wpAnyH_ready (rs := [1]) (by kernel_rfl) (by simp) ?_
  refine AllReadyH.cons (o := ⟨some 4, .call { callee := .value (.func 11), args := #[.tmp 3], argTypes := #[26] }, 26, "ref.go:65", #[⟨0, .data⟩], none⟩) rfl (fun K hK => ?_) AllReadyH.nil
  go_simp
  go_at_call 11; refine (CN.out _ (HBW.out _ BW.out)).mono ?_; rintro e x ⟨v1, rfl, ha, hb⟩; have U := Go.Lib.hid ha; clear ha; replace BW := Go.Lib.hid (BW.out.trans (hb.mono BW.out.size)); clear hb
  (try go_wp2_with fail)
  refine hK.out _ _ (HKC.out _ BW.out) (fun hHeld1 => ?_)
  clear hK K
  try simp only [Act.put, List.setIfInBounds_toArray, List.set_cons_zero, List.set_cons_succ]
  refine wpAnyH_ready (rs := [3]) (by kernel_rfl) (by simp) ?_
  refine AllReadyH.cons (o := ⟨some 6, .call { callee := .value (.func 9), args := #[.tmp 4, .tmp 5], argTypes := #[26, 26] }, 4, "ref.go:65", #[⟨1, .data⟩, ⟨2, .data⟩, ⟨1, .chain⟩], none⟩) rfl (fun K hK => ?_) AllReadyH.nil
  go_simp
  go_at_call 9; refine (CM.out _ _ U.out (HBW.out _ BW.out)).mono ?_; rintro e x ⟨rfl, hb⟩; replace BW := Go.Lib.hid (BW.out.trans (hb.mono BW.out.size)); clear hb
  (try go_wp2_with fail)
  refine hK.out _ _ (HKC.out _ BW.out) (fun hHeld2 => ?_)
  clear hK K
  try simp only [Act.put, List.setIfInBounds_toArray, List.set_cons_zero, List.set_cons_succ]
  refine wpAnyH_take (i := 4) (oi := ⟨some 7, .move (.tmp 6), 4, "ref.go:65", #[⟨3, .data⟩, ⟨3, .chain⟩], none⟩) (v := ?_) rfl (by kernel_rfl) (by kernel_rfl) (by kernel_rfl) (fun _ _ _ h => h) (Or.inl ⟨by rfl, ?_⟩) hHeld2 ?_
  rotate_left
  · (intro w hSw; (try dsimp only at hSw); go_simp)
    try with_reducible rfl
  try simp only [Act.put, List.setIfInBounds_toArray, List.set_cons_zero, List.set_cons_succ]
  refine wpAnyH_take (i := 5) (oi := ⟨some 8, .fieldAddr 26 (.tmp 1) 1, 0, "ref.go:65", #[⟨4, .guard⟩], some (4, true)⟩) (v := ?_) rfl (by kernel_rfl) (by kernel_rfl) (by kernel_rfl) (fun _ _ _ h => h) (Or.inl ⟨by rfl, ?_⟩) hHeld2 ?_
  rotate_left
  · (intro w hSw; (try dsimp only at hSw); go_simp)
    try with_reducible rfl
  try simp only [Act.put, List.setIfInBounds_toArray, List.set_cons_zero, List.set_cons_succ]
  refine wpAnyH_take (i := 6) (oi := ⟨some 9, .load 3 (.tmp 8), 3, "ref.go:65", #[⟨5, .data⟩, ⟨4, .guard⟩], some (4, true)⟩) (v := ?_) rfl (by kernel_rfl) (by kernel_rfl) (by kernel_rfl) (fun _ _ _ h => h) (Or.inl ⟨by rfl, ?_⟩) hHeld2 ?_
  rotate_left
  · (intro w hSw; (try dsimp only at hSw); go_simp)
    try with_reducible rfl
  try simp only [Act.put, List.setIfInBounds_toArray, List.set_cons_zero, List.set_cons_succ]
  refine wpAnyH_take (i := 7) (oi := ⟨some 10, .binOp .geq 3 (.tmp 9) (.const (.int .i64 0)) 3, 4, "ref.go:65", #[⟨6, .data⟩, ⟨4, .guard⟩], some (4, true)⟩) (v := ?_) rfl (by kernel_rfl) (by kernel_rfl) (by kernel_rfl) (fun _ _ _ h => h) (Or.inl ⟨by rfl, ?_⟩) hHeld2 ?_
  rotate_left
  · (intro w hSw; (try dsimp only at hSw); go_simp)
    try with_reducible rfl
  try simp only [Act.put, List.setIfInBounds_toArray, List.set_cons_zero, List.set_cons_succ]
  refine wpAnyH_take (i := 8) (oi := ⟨some 11, .pick (.tmp 7) (.tmp 10) (.const (.bool false)), 4, "ref.go:65", #[⟨4, .data⟩, ⟨7, .data⟩], none⟩) (v := ?_) rfl (by kernel_rfl) (by kernel_rfl) (by kernel_rfl) (fun _ _ _ h => h) (Or.inl ⟨by rfl, ?_⟩) hHeld2 ?_
  rotate_left
  · (intro w hSw; (try dsimp only at hSw); go_simp)
    try with_reducible rfl
  try simp only [Act.put, List.setIfInBounds_toArray, List.set_cons_zero, List.set_cons_succ]
  refine wpAnyH_take (i := 9) (oi := ⟨some 12, .move (.tmp 11), 4, "ref.go:65", #[⟨8, .data⟩, ⟨4, .chain⟩], none⟩) (v := ?_) rfl (by kernel_rfl) (by kernel_rfl) (by kernel_rfl) (fun _ _ _ h => h) (Or.inl ⟨by rfl, ?_⟩) hHeld2 ?_
  rotate_left
  · (intro w hSw; (try dsimp only at hSw); go_simp)
    try with_reducible rfl
  try simp only [Act.put, List.setIfInBounds_toArray, List.set_cons_zero, List.set_cons_succ]
  refine wpAnyH_take (i := 10) (oi := ⟨some 13, .fieldAddr 26 (.tmp 1) 1, 0, "ref.go:65", #[⟨9, .guard⟩], some (9, true)⟩) (v := ?_) rfl (by kernel_rfl) (by kernel_rfl) (by kernel_rfl) (fun _ _ _ h => h) (Or.inl ⟨by rfl, ?_⟩) hHeld2 ?_
  rotate_left
  · (intro w hSw; (try dsimp only at hSw); go_simp)
    try with_reducible rfl
  try simp only [Act.put, List.setIfInBounds_toArray, List.set_cons_zero, List.set_cons_succ]
  refine wpAnyH_take (i := 11) (oi := ⟨some 14, .load 3 (.tmp 13), 3, "ref.go:65", #[⟨10, .data⟩, ⟨9, .guard⟩], some (9, true)⟩) (v := ?_) rfl (by kernel_rfl) (by kernel_rfl) (by kernel_rfl) (fun _ _ _ h => h) (Or.inl ⟨by rfl, ?_⟩) hHeld2 ?_
  rotate_left
  · (intro w hSw; (try dsimp only at hSw); go_simp)
    try with_reducible rfl
  try simp only [Act.put, List.setIfInBounds_toArray, List.set_cons_zero, List.set_cons_succ]
  refine wpAnyH_take (i := 12) (oi := ⟨some 15, .binOp .leq 3 (.tmp 14) (.const (.int .i64 2)) 3, 4, "ref.go:65", #[⟨11, .data⟩, ⟨9, .guard⟩], some (9, true)⟩) (v := ?_) rfl (by kernel_rfl) (by kernel_rfl) (by kernel_rfl) (fun _ _ _ h => h) (Or.inl ⟨by rfl, ?_⟩) hHeld2 ?_
  rotate_left
  · (intro w hSw; (try dsimp only at hSw); go_simp)
    try with_reducible rfl
  try simp only [Act.put, List.setIfInBounds_toArray, List.set_cons_zero, List.set_cons_succ]
  refine wpAnyH_take (i := 13) (oi := ⟨some 16, .pick (.tmp 12) (.tmp 15) (.const (.bool false)), 4, "ref.go:65", #[⟨9, .data⟩, ⟨12, .data⟩], none⟩) (v := ?_) rfl (by kernel_rfl) (by kernel_rfl) (by kernel_rfl) (fun _ _ _ h => h) (Or.inl ⟨by rfl, ?_⟩) hHeld2 ?_
  rotate_left
  · (intro w hSw; (try dsimp only at hSw); go_simp)
    try with_reducible rfl
  try simp only [Act.put, List.setIfInBounds_toArray, List.set_cons_zero, List.set_cons_succ]
  refine wpAnyH_take (i := 14) (oi := ⟨some 17, .move (.tmp 16), 4, "ref.go:65", #[⟨13, .data⟩, ⟨9, .chain⟩], none⟩) (v := ?_) rfl (by kernel_rfl) (by kernel_rfl) (by kernel_rfl) (fun _ _ _ h => h) (Or.inl ⟨by rfl, ?_⟩) hHeld2 ?_
  rotate_left
  · (intro w hSw; (try dsimp only at hSw); go_simp)
    try with_reducible rfl
  try simp only [Act.put, List.setIfInBounds_toArray, List.set_cons_zero, List.set_cons_succ]
  refine wpAnyH_take (i := 15) (oi := ⟨some 18, .fieldAddr 26 (.tmp 1) 2, 0, "ref.go:65", #[⟨14, .guard⟩], some (14, true)⟩) (v := undef) rfl (by kernel_rfl) (by kernel_rfl) (by kernel_rfl) (fun _ _ _ h => h) (Or.inr ⟨by rfl, rfl⟩) hHeld2 ?_
  try simp only [Act.put, List.setIfInBounds_toArray, List.set_cons_zero, List.set_cons_succ]
  refine wpAnyH_take (i := 16) (oi := ⟨some 19, .load 22 (.tmp 18), 22, "ref.go:65", #[⟨15, .data⟩, ⟨14, .guard⟩], some (14, true)⟩) (v := undef) rfl (by kernel_rfl) (by kernel_rfl) (by kernel_rfl) (fun _ _ _ h => h) (Or.inr ⟨by rfl, rfl⟩) hHeld2 ?_
  try simp only [Act.put, List.setIfInBounds_toArray, List.set_cons_zero, List.set_cons_succ]
  refine wpAnyH_take (i := 17) (oi := ⟨some 20, .call { callee := .value (.func 34), args := #[.tmp 19], argTypes := #[22] }, 4, "ref.go:65", #[⟨16, .data⟩, ⟨14, .chain⟩, ⟨14, .guard⟩], some (14, true)⟩) (v := undef) rfl (by kernel_rfl) (by kernel_rfl) (by kernel_rfl) (fun _ _ _ h => h) (Or.inr ⟨by rfl, rfl⟩) hHeld2 ?_
  try simp only [Act.put, List.setIfInBounds_toArray, List.set_cons_zero, List.set_cons_succ]
  refine wpAnyH_take (i := 18) (oi := ⟨some 21, .pick (.tmp 17) (.tmp 20) (.const (.bool false)), 4, "ref.go:65", #[⟨14, .data⟩, ⟨17, .data⟩], none⟩) (v := ?_) rfl (by kernel_rfl) (by kernel_rfl) (by kernel_rfl) (fun _ _ _ h => h) (Or.inl ⟨by rfl, ?_⟩) hHeld2 ?_
  rotate_left
  · (intro w hSw; (try dsimp only at hSw); go_simp)
    try with_reducible rfl
  try simp only [Act.put, List.setIfInBounds_toArray, List.set_cons_zero, List.set_cons_succ]
  refine wpAnyH_take (i := 19) (oi := ⟨some 22, .move (.tmp 21), 4, "ref.go:65", #[⟨18, .data⟩, ⟨17, .chain⟩], none⟩) (v := ?_) rfl (by kernel_rfl) (by kernel_rfl) (by kernel_rfl) (fun _ _ _ h => h) (Or.inl ⟨by rfl, ?_⟩) hHeld2 ?_
  rotate_left
  · (intro w hSw; (try dsimp only at hSw); go_simp)
    try with_reducible rfl
  try simp only [Act.put, List.setIfInBounds_toArray, List.set_cons_zero, List.set_cons_succ]
  refine wpAnyH_take (i := 20) (oi := ⟨some 23, .load 26 (.tmp 1), 26, "ref.go:65", #[⟨19, .guard⟩], some (19, true)⟩) (v := undef) rfl (by kernel_rfl) (by kernel_rfl) (by kernel_rfl) (fun _ _ _ h => h) (Or.inr ⟨by rfl, rfl⟩) hHeld2 ?_
  try simp only [Act.put, List.setIfInBounds_toArray, List.set_cons_zero, List.set_cons_succ]
  refine wpAnyH_take (i := 21) (oi := ⟨some 24, .call { callee := .value (.func 17), args := #[.tmp 23, .const (.int .i64 3)], argTypes := #[26, 3] }, 4, "ref.go:65", #[⟨20, .data⟩, ⟨19, .chain⟩, ⟨19, .guard⟩], some (19, true)⟩) (v := undef) rfl (by kernel_rfl) (by kernel_rfl) (by kernel_rfl) (fun _ _ _ h => h) (Or.inr ⟨by rfl, rfl⟩) hHeld2 ?_
  try simp only [Act.put, List.setIfInBounds_toArray, List.set_cons_zero, List.set_cons_succ]
  refine wpAnyH_take (i := 22) (oi := ⟨some 25, .unOp .not 4 (.tmp 24), 4, "ref.go:65", #[⟨21, .data⟩, ⟨19, .guard⟩], some (19, true)⟩) (v := undef) rfl (by kernel_rfl) (by kernel_rfl) (by kernel_rfl) (fun _ _ _ h => h) (Or.inr ⟨by rfl, rfl⟩) hHeld2 ?_
  try simp only [Act.put, List.setIfInBounds_toArray, List.set_cons_zero, List.set_cons_succ]
  refine wpAnyH_take (i := 23) (oi := ⟨some 26, .move (.tmp 25), 4, "ref.go:65", #[⟨22, .data⟩, ⟨21, .chain⟩, ⟨19, .guard⟩], some (19, true)⟩) (v := undef) rfl (by kernel_rfl) (by kernel_rfl) (by kernel_rfl) (fun _ _ _ h => h) (Or.inr ⟨by rfl, rfl⟩) hHeld2 ?_
  try simp only [Act.put, List.setIfInBounds_toArray, List.set_cons_zero, List.set_cons_succ]
  refine wpAnyH_take (i := 24) (oi := ⟨some 27, .fieldAddr 26 (.tmp 1) 3, 0, "ref.go:65", #[⟨23, .guard⟩], some (23, false)⟩) (v := undef) rfl (by kernel_rfl) (by kernel_rfl) (by kernel_rfl) (fun _ _ _ h => h) (Or.inr ⟨by rfl, rfl⟩) hHeld2 ?_
  try simp only [Act.put, List.setIfInBounds_toArray, List.set_cons_zero, List.set_cons_succ]
  refine wpAnyH_take (i := 25) (oi := ⟨some 28, .load 23 (.tmp 27), 23, "ref.go:65", #[⟨24, .data⟩, ⟨23, .guard⟩], some (23, false)⟩) (v := undef) rfl (by kernel_rfl) (by kernel_rfl) (by kernel_rfl) (fun _ _ _ h => h) (Or.inr ⟨by rfl, rfl⟩) hHeld2 ?_
  try simp only [Act.put, List.setIfInBounds_toArray, List.set_cons_zero, List.set_cons_succ]
  refine wpAnyH_take (i := 26) (oi := ⟨some 29, .call { callee := .value (.func 16), args := #[.tmp 28], argTypes := #[23] }, 4, "ref.go:65", #[⟨25, .data⟩, ⟨23, .chain⟩, ⟨23, .guard⟩], some (23, false)⟩) (v := undef) rfl (by kernel_rfl) (by kernel_rfl) (by kernel_rfl) (fun _ _ _ h => h) (Or.inr ⟨by rfl, rfl⟩) hHeld2 ?_
  try simp only [Act.put, List.setIfInBounds_toArray, List.set_cons_zero, List.set_cons_succ]
  refine wpAnyH_take (i := 27) (oi := ⟨some 30, .pick (.tmp 26) (.const (.bool true)) (.tmp 29), 4, "ref.go:65", #[⟨23, .data⟩, ⟨26, .data⟩, ⟨19, .guard⟩], some (19, true)⟩) (v := undef) rfl (by kernel_rfl) (by kernel_rfl) (by kernel_rfl) (fun _ _ _ h => h) (Or.inr ⟨by rfl, rfl⟩) hHeld2 ?_
  try simp only [Act.put, List.setIfInBounds_toArray, List.set_cons_zero, List.set_cons_succ]
  refine wpAnyH_take (i := 28) (oi := ⟨some 31, .pick (.tmp 22) (.tmp 30) (.const (.bool false)), 4, "ref.go:65", #[⟨19, .data⟩, ⟨27, .data⟩], none⟩) (v := ?_) rfl (by kernel_rfl) (by kernel_rfl) (by kernel_rfl) (fun _ _ _ h => h) (Or.inl ⟨by rfl, ?_⟩) hHeld2 ?_
  rotate_left
  · (intro w hSw; (try dsimp only at hSw); go_simp)
    try with_reducible rfl
  try simp only [Act.put, List.setIfInBounds_toArray, List.set_cons_zero, List.set_cons_succ]
  refine wpAnyH_take (i := 29) (oi := ⟨some 32, .move (.tmp 31), 4, "ref.go:65", #[⟨28, .data⟩, ⟨26, .chain⟩], none⟩) (v := ?_) rfl (by kernel_rfl) (by kernel_rfl) (by kernel_rfl) (fun _ _ _ h => h) (Or.inl ⟨by rfl, ?_⟩) hHeld2 ?_
  rotate_left
  · (intro w hSw; (try dsimp only at hSw); go_simp)
    try with_reducible rfl
  try simp only [Act.put, List.setIfInBounds_toArray, List.set_cons_zero, List.set_cons_succ]
  refine wpAnyH_take (i := 30) (oi := ⟨some 33, .fieldAddr 26 (.tmp 1) 8, 0, "ref.go:65", #[⟨29, .guard⟩], some (29, true)⟩) (v := undef) rfl (by kernel_rfl) (by kernel_rfl) (by kernel_rfl) (fun _ _ _ h => h) (Or.inr ⟨by rfl, rfl⟩) hHeld2 ?_
  try simp only [Act.put, List.setIfInBounds_toArray, List.set_cons_zero, List.set_cons_succ]
  refine wpAnyH_take (i := 31) (oi := ⟨some 34, .load 24 (.tmp 33), 24, "ref.go:65", #[⟨30, .data⟩, ⟨29, .guard⟩], some (29, true)⟩) (v := undef) rfl (by kernel_rfl) (by kernel_rfl) (by kernel_rfl) (fun _ _ _ h => h) (Or.inr ⟨by rfl, rfl⟩) hHeld2 ?_
  try simp only [Act.put, List.setIfInBounds_toArray, List.set_cons_zero, List.set_cons_succ]
  refine wpAnyH_take (i := 32) (oi := ⟨some 35, .call { callee := .builtin .len, args := #[.tmp 34], argTypes := #[24] }, 3, "ref.go:65", #[⟨31, .data⟩, ⟨29, .guard⟩], some (29, true)⟩) (v := undef) rfl (by kernel_rfl) (by kernel_rfl) (by kernel_rfl) (fun _ _ _ h => h) (Or.inr ⟨by rfl, rfl⟩) hHeld2 ?_
  try simp only [Act.put, List.setIfInBounds_toArray, List.set_cons_zero, List.set_cons_succ]
  refine wpAnyH_take (i := 33) (oi := ⟨some 36, .binOp .leq 3 (.tmp 35) (.const (.int .i64 255)) 3, 4, "ref.go:65", #[⟨32, .data⟩, ⟨29, .guard⟩], some (29, true)⟩) (v := undef) rfl (by kernel_rfl) (by kernel_rfl) (by kernel_rfl) (fun _ _ _ h => h) (Or.inr ⟨by rfl, rfl⟩) hHeld2 ?_
  try simp only [Act.put, List.setIfInBounds_toArray, List.set_cons_zero, List.set_cons_succ]
  refine wpAnyH_take (i := 34) (oi := ⟨some 37, .pick (.tmp 32) (.tmp 36) (.const (.bool false)), 4, "ref.go:65", #[⟨29, .data⟩, ⟨33, .data⟩], none⟩) (v := ?_) rfl (by kernel_rfl) (by kernel_rfl) (by kernel_rfl) (fun _ _ _ h => h) (Or.inl ⟨by rfl, ?_⟩) hHeld2 ?_
  rotate_left
  · (intro w hSw; (try dsimp only at hSw); go_simp)
    try with_reducible rfl
  try simp only [Act.put, List.setIfInBounds_toArray, List.set_cons_zero, List.set_cons_succ]
  refine wpAnyH_take (i := 35) (oi := ⟨some 2, .assign (.tmp 37), 4, "ref.go:65", #[⟨34, .data⟩, ⟨29, .chain⟩, ⟨0, .phase⟩, ⟨1, .phase⟩, ⟨2, .phase⟩, ⟨3, .phase⟩, ⟨4, .phase⟩, ⟨5, .phase⟩, ⟨6, .phase⟩, ⟨7, .phase⟩, ⟨8, .phase⟩, ⟨9, .phase⟩, ⟨10, .phase⟩, ⟨11, .phase⟩, ⟨12, .phase⟩, ⟨13, .phase⟩, ⟨14, .phase⟩, ⟨15, .phase⟩, ⟨16, .phase⟩, ⟨17, .phase⟩, ⟨18, .phase⟩, ⟨19, .phase⟩, ⟨20, .phase⟩, ⟨21, .phase⟩, ⟨22, .phase⟩, ⟨23, .phase⟩, ⟨24, .phase⟩, ⟨25, .phase⟩, ⟨26, .phase⟩, ⟨27, .phase⟩, ⟨28, .phase⟩, ⟨29, .phase⟩, ⟨30, .phase⟩, ⟨31, .phase⟩, ⟨32, .phase⟩, ⟨33, .phase⟩, ⟨34, .phase⟩], none⟩) (v := ?_) rfl (by kernel_rfl) (by kernel_rfl) (by kernel_rfl) (fun _ _ _ h => h) (Or.inl ⟨by rfl, ?_⟩) hHeld2 ?_
  rotate_left
  · (intro w hSw; (try dsimp only at hSw); go_simp)
    try with_reducible rfl
  try simp only [Act.put, List.setIfInBounds_toArray, List.set_cons_zero, List.set_cons_succ]
  refine wpAnyH_done (by kernel_rfl) ?_ _
  refine NoPanic.normal ?_
  go_wp2
  go_ret
  exact ⟨rfl, HBW.out _ BW.out⟩
set_option maxRecDepth 100000 in
set_option maxHeartbeats 8000000 in
theorem good_w (h o : Int) (vp : Value) (Ac : Option Addr) (cl cc : Nat) (hp md pr ag ai : Nat) (w : World) (An : At)
    (CN : Hid (∀ W, Below w.heap.size w W → Calls Tryd.prog 11 #[.agg #[.int .i64 h, .int .i64 o, vp, .int .u32 hp, .int .u32 md, .int .u32 pr, .int .u32 ag, .int .u32 ai, .slice Ac cl cc]] W (fun e w' => ∃ v, e = .returned v ∧ Attrs w' v An ∧ Below W.heap.size W w')))
    (CM : Hid (∀ v W, Attrs W v An → Below w.heap.size w W → Calls Tryd.prog 9 #[v, .agg #[.int .i64 h, .int .i64 o, vp, .int .u32 hp, .int .u32 md, .int .u32 pr, .int .u32 ag, .int .u32 ai, .slice Ac cl cc]] W (Tells (.bool true) W)))
    (CW : Hid (∀ W, Below w.heap.size w W → Calls Tryd.prog 34 #[vp] W (Tells (.bool false) W)))
    (z0 : 0 ≤ o) (z1 : o ≤ 2) : Calls Tryd.prog 8 #[.agg #[.int .i64 h, .int .i64 o, vp, .int .u32 hp, .int .u32 md, .int .u32 pr, .int .u32 ag, .int .u32 ai, .slice Ac cl cc]] w (Tells (.bool false) w) := by
  have HB := Go.Lib.hid ((Below.refl _ w).alloc (Nat.le_refl _) (.cells #[.int .i64 h, .int .i64 o, vp, .int .u32 hp, .int .u32 md, .int .u32 pr, .int .u32 ag, .int .u32 ai, .slice Ac cl cc] 26))
  have HC := Go.Lib.hid (Box9.new w 26 (.int .i64 h) (.int .i64 o) (vp) (.int .u32 hp) (.int .u32 md) (.int .u32 pr) (.int .u32 ag) (.int .u32 ai) (.slice Ac cl cc))
  go_enter Tryd.func8, Tryd.ntmps8
  go_wp2
  have HKC := Go.Lib.hid (fun (W : World) (h : Below (w.alloc (.cells #[.int .i64 h, .int .i64 o, vp, .int .u32 hp, .int .u32 md, .int .u32 pr, .int .u32 ag, .int .u32 ai, .slice Ac cl cc] 26)).heap.size (w.alloc (.cells #[.int .i64 h, .int .i64 o, vp, .int .u32 hp, .int .u32 md, .int .u32 pr, .int .u32 ag, .int .u32 ai, .slice Ac cl cc] 26)) W) => (HC.out.keep h).cells)
  have HBW := Go.Lib.hid (fun (W : World) (h : Below (w.alloc (.cells #[.int .i64 h, .int .i64 o, vp, .int .u32 hp, .int .u32 md, .int .u32 pr, .int .u32 ag, .int .u32 ai, .slice Ac cl cc] 26)).heap.size (w.alloc (.cells #[.int .i64 h, .int .i64 o, vp, .int .u32 hp, .int .u32 md, .int .u32 pr, .int .u32 ag, .int .u32 ai, .slice Ac cl cc] 26)) W) => HB.out.trans (h.mono HB.out.size))
  have BW := Go.Lib.hid ((Below.refl (w.alloc (.cells #[.int .i64 h, .int .i64 o, vp, .int .u32 hp, .int .u32 md, .int .u32 pr, .int .u32 ag, .int .u32 ai, .slice Ac cl cc] 26)).heap.size (w.alloc (.cells #[.int .i64 h, .int .i64 o, vp, .int .u32 hp, .int .u32 md, .int .u32 pr, .int .u32 ag, .int .u32 ai, .slice Ac cl cc] 26))).drew)
  refine wp_region_noPanic ?_
  refine wp_region_held_drew (S := (fun w' => w'.cell? ⟨w.heap.size, 0, none⟩ = some (.int .i64 h) ∧ w'.cell? ⟨w.heap.size, 1, none⟩ = some (.int .i64 o) ∧ w'.cell? ⟨w.heap.size, 2, none⟩ = some (vp) ∧ w'.cell? ⟨w.heap.size, 3, none⟩ = some (.int .u32 hp) ∧ w'.cell? ⟨w.heap.size, 4, none⟩ = some (.int .u32 md) ∧ w'.cell? ⟨w.heap.size, 5, none⟩ = some (.int .u32 pr) ∧ w'.cell? ⟨w.heap.size, 6, none⟩ = some (.int .u32 ag) ∧ w'.cell? ⟨w.heap.size, 7, none⟩ = some (.int .u32 ai) ∧ w'.cell? ⟨w.heap.size, 8, none⟩ = some (.slice Ac cl cc))) (by kernel_rfl) (HKC.out _ BW.out) (fun hHeld => ?_)
  refine wpAnyH_take (i := 0) (oi := ⟨some 3, .load 26 (.tmp 1), 26, "ref.go:65", #[], none⟩) (v := ?_) rfl (by kernel_rfl) (by kernel_rfl) (by kernel_rfl) (fun _ _ _ h => h) (Or.inl ⟨by rfl, ?_⟩) hHeld ?_
  rotate_left
  · (intro w hSw; (try dsimp only at hSw); go_simp)
    try with_reducible rfl
  try simp only [Act.put, List.setIfInBounds_toArray, List.set_cons_zero, List.set_cons_succ]
  refine wpAnyH_take (i := 2) (oi := ⟨some 5, .load 26 (.tmp 1), 26, "ref.go:65", #[], none⟩) (v := ?_) rfl (by kernel_rfl) (by kernel_rfl) (by kernel_rfl) (fun _ _ _ h => h) (Or.inl ⟨by rfl, ?_⟩) hHeld ?_
  rotate_left
  · (intro w hSw; (try dsimp only at hSw); go_simp)
    try with_reducible rfl
  try simp only [Act.put, List.setIfInBounds_toArray, List.set_cons_zero, List.set_cons_succ]
  refine wpAnyH_ready (rs := [1]) (by kernel_rfl) (by simp) ?_
  refine AllReadyH.cons (o := ⟨some 4, .call { callee := .value (.func 11), args := #[.tmp 3], argTypes := #[26] }, 26, "ref.go:65", #[⟨0, .data⟩], none⟩) rfl (fun K hK => ?_) AllReadyH.nil
  go_simp
  go_at_call 11; refine (CN.out _ (HBW.out _ BW.out)).mono ?_; rintro e x ⟨v1, rfl, ha, hb⟩; have U := Go.Lib.hid ha; clear ha; replace BW := Go.Lib.hid (BW.out.trans (hb.mono BW.out.size)); clear hb
  (try go_wp2_with fail)
  refine hK.out _ _ (HKC.out _ BW.out) (fun hHeld1 => ?_)
  clear hK K
  try simp only [Act.put, List.setIfInBounds_toArray, List.set_cons_zero, List.set_cons_succ]
  refine wpAnyH_ready (rs := [3]) (by kernel_rfl) (by simp) ?_
  refine AllReadyH.cons (o := ⟨some 6, .call { callee := .value (.func 9), args := #[.tmp 4, .tmp 5], argTypes := #[26, 26] }, 4, "ref.go:65", #[⟨1, .data⟩, ⟨2, .data⟩, ⟨1, .chain⟩], none⟩) rfl (fun K hK => ?_) AllReadyH.nil
  go_simp
  go_at_call 9; refine (CM.out _ _ U.out (HBW.out _ BW.out)).mono ?_; rintro e x ⟨rfl, hb⟩; replace BW := Go.Lib.hid (BW.out.trans (hb.mono BW.out.size)); clear hb
  (try go_wp2_with fail)
  refine hK.out _ _ (HKC.out _ BW.out) (fun hHeld2 => ?_)
  clear hK K
  try simp only [Act.put, List.setIfInBounds_toArray, List.set_cons_zero, List.set_cons_succ]
  refine wpAnyH_take (i := 4) (oi := ⟨some 7, .move (.tmp 6), 4, "ref.go:65", #[⟨3, .data⟩, ⟨3, .chain⟩], none⟩) (v := ?_) rfl (by kernel_rfl) (by kernel_rfl) (by kernel_rfl) (fun _ _ _ h => h) (Or.inl ⟨by rfl, ?_⟩) hHeld2 ?_
  rotate_left
  · (intro w hSw; (try dsimp only at hSw); go_simp)
    try with_reducible rfl
  try simp only [Act.put, List.setIfInBounds_toArray, List.set_cons_zero, List.set_cons_succ]
  refine wpAnyH_take (i := 5) (oi := ⟨some 8, .fieldAddr 26 (.tmp 1) 1, 0, "ref.go:65", #[⟨4, .guard⟩], some (4, true)⟩) (v := ?_) rfl (by kernel_rfl) (by kernel_rfl) (by kernel_rfl) (fun _ _ _ h => h) (Or.inl ⟨by rfl, ?_⟩) hHeld2 ?_
  rotate_left
  · (intro w hSw; (try dsimp only at hSw); go_simp)
    try with_reducible rfl
  try simp only [Act.put, List.setIfInBounds_toArray, List.set_cons_zero, List.set_cons_succ]
  refine wpAnyH_take (i := 6) (oi := ⟨some 9, .load 3 (.tmp 8), 3, "ref.go:65", #[⟨5, .data⟩, ⟨4, .guard⟩], some (4, true)⟩) (v := ?_) rfl (by kernel_rfl) (by kernel_rfl) (by kernel_rfl) (fun _ _ _ h => h) (Or.inl ⟨by rfl, ?_⟩) hHeld2 ?_
  rotate_left
  · (intro w hSw; (try dsimp only at hSw); go_simp)
    try with_reducible rfl
  try simp only [Act.put, List.setIfInBounds_toArray, List.set_cons_zero, List.set_cons_succ]
  refine wpAnyH_take (i := 7) (oi := ⟨some 10, .binOp .geq 3 (.tmp 9) (.const (.int .i64 0)) 3, 4, "ref.go:65", #[⟨6, .data⟩, ⟨4, .guard⟩], some (4, true)⟩) (v := ?_) rfl (by kernel_rfl) (by kernel_rfl) (by kernel_rfl) (fun _ _ _ h => h) (Or.inl ⟨by rfl, ?_⟩) hHeld2 ?_
  rotate_left
  · (intro w hSw; (try dsimp only at hSw); go_simp)
    try with_reducible rfl
  try simp only [Act.put, List.setIfInBounds_toArray, List.set_cons_zero, List.set_cons_succ]
  refine wpAnyH_take (i := 8) (oi := ⟨some 11, .pick (.tmp 7) (.tmp 10) (.const (.bool false)), 4, "ref.go:65", #[⟨4, .data⟩, ⟨7, .data⟩], none⟩) (v := ?_) rfl (by kernel_rfl) (by kernel_rfl) (by kernel_rfl) (fun _ _ _ h => h) (Or.inl ⟨by rfl, ?_⟩) hHeld2 ?_
  rotate_left
  · (intro w hSw; (try dsimp only at hSw); go_simp)
    try with_reducible rfl
  try simp only [Act.put, List.setIfInBounds_toArray, List.set_cons_zero, List.set_cons_succ]
  refine wpAnyH_take (i := 9) (oi := ⟨some 12, .move (.tmp 11), 4, "ref.go:65", #[⟨8, .data⟩, ⟨4, .chain⟩], none⟩) (v := ?_) rfl (by kernel_rfl) (by kernel_rfl) (by kernel_rfl) (fun _ _ _ h => h) (Or.inl ⟨by rfl, ?_⟩) hHeld2 ?_
  rotate_left
  · (intro w hSw; (try dsimp only at hSw); go_simp)
    try with_reducible rfl
  try simp only [Act.put, List.setIfInBounds_toArray, List.set_cons_zero, List.set_cons_succ]
  refine wpAnyH_take (i := 10) (oi := ⟨some 13, .fieldAddr 26 (.tmp 1) 1, 0, "ref.go:65", #[⟨9, .guard⟩], some (9, true)⟩) (v := ?_) rfl (by kernel_rfl) (by kernel_rfl) (by kernel_rfl) (fun _ _ _ h => h) (Or.inl ⟨by rfl, ?_⟩) hHeld2 ?_
  rotate_left
  · (intro w hSw; (try dsimp only at hSw); go_simp)
    try with_reducible rfl
  try simp only [Act.put, List.setIfInBounds_toArray, List.set_cons_zero, List.set_cons_succ]
  refine wpAnyH_take (i := 11) (oi := ⟨some 14, .load 3 (.tmp 13), 3, "ref.go:65", #[⟨10, .data⟩, ⟨9, .guard⟩], some (9, true)⟩) (v := ?_) rfl (by kernel_rfl) (by kernel_rfl) (by kernel_rfl) (fun _ _ _ h => h) (Or.inl ⟨by rfl, ?_⟩) hHeld2 ?_
  rotate_left
  · (intro w hSw; (try dsimp only at hSw); go_simp)
    try with_reducible rfl
  try simp only [Act.put, List.setIfInBounds_toArray, List.set_cons_zero, List.set_cons_succ]
  refine wpAnyH_take (i := 12) (oi := ⟨some 15, .binOp .leq 3 (.tmp 14) (.const (.int .i64 2)) 3, 4, "ref.go:65", #[⟨11, .data⟩, ⟨9, .guard⟩], some (9, true)⟩) (v := ?_) rfl (by kernel_rfl) (by kernel_rfl) (by kernel_rfl) (fun _ _ _ h => h) (Or.inl ⟨by rfl, ?_⟩) hHeld2 ?_
  rotate_left
  · (intro w hSw; (try dsimp only at hSw); go_simp)
    try with_reducible rfl
  try simp only [Act.put, List.setIfInBounds_toArray, List.set_cons_zero, List.set_cons_succ]
  refine wpAnyH_take (i := 13) (oi := ⟨some 16, .pick (.tmp 12) (.tmp 15) (.const (.bool false)), 4, "ref.go:65", #[⟨9, .data⟩, ⟨12, .data⟩], none⟩) (v := ?_) rfl (by kernel_rfl) (by kernel_rfl) (by kernel_rfl) (fun _ _ _ h => h) (Or.inl ⟨by rfl, ?_⟩) hHeld2 ?_
  rotate_left
  · (intro w hSw; (try dsimp only at hSw); go_simp)
    try with_reducible rfl
  try simp only [Act.put, List.setIfInBounds_toArray, List.set_cons_zero, List.set_cons_succ]
  refine wpAnyH_take (i := 14) (oi := ⟨some 17, .move (.tmp 16), 4, "ref.go:65", #[⟨13, .data⟩, ⟨9, .chain⟩], none⟩) (v := ?_) rfl (by kernel_rfl) (by kernel_rfl) (by kernel_rfl) (fun _ _ _ h => h) (Or.inl ⟨by rfl, ?_⟩) hHeld2 ?_
  rotate_left
  · (intro w hSw; (try dsimp only at hSw); go_simp)
    try with_reducible rfl
  try simp only [Act.put, List.setIfInBounds_toArray, List.set_cons_zero, List.set_cons_succ]
  refine wpAnyH_take (i := 15) (oi := ⟨some 18, .fieldAddr 26 (.tmp 1) 2, 0, "ref.go:65", #[⟨14, .guard⟩], some (14, true)⟩) (v := ?_) rfl (by kernel_rfl) (by kernel_rfl) (by kernel_rfl) (fun _ _ _ h => h) (Or.inl ⟨by rfl, ?_⟩) hHeld2 ?_
  rotate_left
  · (intro w hSw; (try dsimp only at hSw); go_simp)
    try with_reducible rfl
  try simp only [Act.put, List.setIfInBounds_toArray, List.set_cons_zero, List.set_cons_succ]
  refine wpAnyH_take (i := 16) (oi := ⟨some 19, .load 22 (.tmp 18), 22, "ref.go:65", #[⟨15, .data⟩, ⟨14, .guard⟩], some (14, true)⟩) (v := ?_) rfl (by kernel_rfl) (by kernel_rfl) (by kernel_rfl) (fun _ _ _ h => h) (Or.inl ⟨by rfl, ?_⟩) hHeld2 ?_
  rotate_left
  · (intro w hSw; (try dsimp only at hSw); go_simp)
    try with_reducible rfl
  try simp only [Act.put, List.setIfInBounds_toArray, List.set_cons_zero, List.set_cons_succ]
  refine wpAnyH_ready (rs := [17]) (by kernel_rfl) (by simp) ?_
  refine AllReadyH.cons (o := ⟨some 20, .call { callee := .value (.func 34), args := #[.tmp 19], argTypes := #[22] }, 4, "ref.go:65", #[⟨16, .data⟩, ⟨14, .chain⟩, ⟨14, .guard⟩], some (14, true)⟩) rfl (fun K hK => ?_) AllReadyH.nil
  go_simp
  go_at_call 34; refine (CW.out _ (HBW.out _ BW.out)).mono ?_; rintro e x ⟨rfl, hb⟩; replace BW := Go.Lib.hid (BW.out.trans (hb.mono BW.out.size)); clear hb
  (try go_wp2_with fail)
  refine hK.out _ _ (HKC.out _ BW.out) (fun hHeld3 => ?_)
  clear hK K
  try simp only [Act.put, List.setIfInBounds_toArray, List.set_cons_zero, List.set_cons_succ]
  refine wpAnyH_take (i := 18) (oi := ⟨some 21, .pick (.tmp 17) (.tmp 20) (.const (.bool false)), 4, "ref.go:65", #[⟨14, .data⟩, ⟨17, .data⟩], none⟩) (v := ?_) rfl (by kernel_rfl) (by kernel_rfl) (by kernel_rfl) (fun _ _ _ h => h) (Or.inl ⟨by rfl, ?_⟩) hHeld3 ?_
  rotate_left
  · (intro w hSw; (try dsimp only at hSw); go_simp)
    try with_reducible rfl
  try simp only [Act.put, List.setIfInBounds_toArray, List.set_cons_zero, List.set_cons_succ]
  refine wpAnyH_take (i := 19) (oi := ⟨some 22, .move (.tmp 21), 4, "ref.go:65", #[⟨18, .data⟩, ⟨17, .chain⟩], none⟩) (v := ?_) rfl (by kernel_rfl) (by kernel_rfl) (by kernel_rfl) (fun _ _ _ h => h) (Or.inl ⟨by rfl, ?_⟩) hHeld3 ?_
  rotate_left
  · (intro w hSw; (try dsimp only at hSw); go_simp)
    try with_reducible rfl
  try simp only [Act.put, List.setIfInBounds_toArray, List.set_cons_zero, List.set_cons_succ]
  refine wpAnyH_take (i := 20) (oi := ⟨some 23, .load 26 (.tmp 1), 26, "ref.go:65", #[⟨19, .guard⟩], some (19, true)⟩) (v := undef) rfl (by kernel_rfl) (by kernel_rfl) (by kernel_rfl) (fun _ _ _ h => h) (Or.inr ⟨by rfl, rfl⟩) hHeld3 ?_
  try simp only [Act.put, List.setIfInBounds_toArray, List.set_cons_zero, List.set_cons_succ]
  refine wpAnyH_take (i := 21) (oi := ⟨some 24, .call { callee := .value (.func 17), args := #[.tmp 23, .const (.int .i64 3)], argTypes := #[26, 3] }, 4, "ref.go:65", #[⟨20, .data⟩, ⟨19, .chain⟩, ⟨19, .guard⟩], some (19, true)⟩) (v := undef) rfl (by kernel_rfl) (by kernel_rfl) (by kernel_rfl) (fun _ _ _ h => h) (Or.inr ⟨by rfl, rfl⟩) hHeld3 ?_
  try simp only [Act.put, List.setIfInBounds_toArray, List.set_cons_zero, List.set_cons_succ]
  refine wpAnyH_take (i := 22) (oi := ⟨some 25, .unOp .not 4 (.tmp 24), 4, "ref.go:65", #[⟨21, .data⟩, ⟨19, .guard⟩], some (19, true)⟩) (v := undef) rfl (by kernel_rfl) (by kernel_rfl) (by kernel_rfl) (fun _ _ _ h => h) (Or.inr ⟨by rfl, rfl⟩) hHeld3 ?_
  try simp only [Act.put, List.setIfInBounds_toArray, List.set_cons_zero, List.set_cons_succ]
  refine wpAnyH_take (i := 23) (oi := ⟨some 26, .move (.tmp 25), 4, "ref.go:65", #[⟨22, .data⟩, ⟨21, .chain⟩, ⟨19, .guard⟩], some (19, true)⟩) (v := undef) rfl (by kernel_rfl) (by kernel_rfl) (by kernel_rfl) (fun _ _ _ h => h) (Or.inr ⟨by rfl, rfl⟩) hHeld3 ?_
  try simp only [Act.put, List.setIfInBounds_toArray, List.set_cons_zero, List.set_cons_succ]
  refine wpAnyH_take (i := 24) (oi := ⟨some 27, .fieldAddr 26 (.tmp 1) 3, 0, "ref.go:65", #[⟨23, .guard⟩], some (23, false)⟩) (v := undef) rfl (by kernel_rfl) (by kernel_rfl) (by kernel_rfl) (fun _ _ _ h => h) (Or.inr ⟨by rfl, rfl⟩) hHeld3 ?_
  try simp only [Act.put, List.setIfInBounds_toArray, List.set_cons_zero, List.set_cons_succ]
  refine wpAnyH_take (i := 25) (oi := ⟨some 28, .load 23 (.tmp 27), 23, "ref.go:65", #[⟨24, .data⟩, ⟨23, .guard⟩], some (23, false)⟩) (v := undef) rfl (by kernel_rfl) (by kernel_rfl) (by kernel_rfl) (fun _ _ _ h => h) (Or.inr ⟨by rfl, rfl⟩) hHeld3 ?_
  try simp only [Act.put, List.setIfInBounds_toArray, List.set_cons_zero, List.set_cons_succ]
  refine wpAnyH_take (i := 26) (oi := ⟨some 29, .call { callee := .value (.func 16), args := #[.tmp 28], argTypes := #[23] }, 4, "ref.go:65", #[⟨25, .data⟩, ⟨23, .chain⟩, ⟨23, .guard⟩], some (23, false)⟩) (v := undef) rfl (by kernel_rfl) (by kernel_rfl) (by kernel_rfl) (fun _ _ _ h => h) (Or.inr ⟨by rfl, rfl⟩) hHeld3 ?_
  try simp only [Act.put, List.setIfInBounds_toArray, List.set_cons_zero, List.set_cons_succ]
  refine wpAnyH_take (i := 27) (oi := ⟨some 30, .pick (.tmp 26) (.const (.bool true)) (.tmp 29), 4, "ref.go:65", #[⟨23, .data⟩, ⟨26, .data⟩, ⟨19, .guard⟩], some (19, true)⟩) (v := undef) rfl (by kernel_rfl) (by kernel_rfl) (by kernel_rfl) (fun _ _ _ h => h) (Or.inr ⟨by rfl, rfl⟩) hHeld3 ?_
  try simp only [Act.put, List.setIfInBounds_toArray, List.set_cons_zero, List.set_cons_succ]
  refine wpAnyH_take (i := 28) (oi := ⟨some 31, .pick (.tmp 22) (.tmp 30) (.const (.bool false)), 4, "ref.go:65", #[⟨19, .data⟩, ⟨27, .data⟩], none⟩) (v := ?_) rfl (by kernel_rfl) (by kernel_rfl) (by kernel_rfl) (fun _ _ _ h => h) (Or.inl ⟨by rfl, ?_⟩) hHeld3 ?_
  rotate_left
  · (intro w hSw; (try dsimp only at hSw); go_simp)
    try with_reducible rfl
  try simp only [Act.put, List.setIfInBounds_toArray, List.set_cons_zero, List.set_cons_succ]
  refine wpAnyH_take (i := 29) (oi := ⟨some 32, .move (.tmp 31), 4, "ref.go:65", #[⟨28, .data⟩, ⟨26, .chain⟩], none⟩) (v := ?_) rfl (by kernel_rfl) (by kernel_rfl) (by kernel_rfl) (fun _ _ _ h => h) (Or.inl ⟨by rfl, ?_⟩) hHeld3 ?_
  rotate_left
  · (intro w hSw; (try dsimp only at hSw); go_simp)
    try with_reducible rfl
  try simp only [Act.put, List.setIfInBounds_toArray, List.set_cons_zero, List.set_cons_succ]
  refine wpAnyH_take (i := 30) (oi := ⟨some 33, .fieldAddr 26 (.tmp 1) 8, 0, "ref.go:65", #[⟨29, .guard⟩], some (29, true)⟩) (v := undef) rfl (by kernel_rfl) (by kernel_rfl) (by kernel_rfl) (fun _ _ _ h => h) (Or.inr ⟨by rfl, rfl⟩) hHeld3 ?_
  try simp only [Act.put, List.setIfInBounds_toArray, List.set_cons_zero, List.set_cons_succ]
  refine wpAnyH_take (i := 31) (oi := ⟨some 34, .load 24 (.tmp 33), 24, "ref.go:65", #[⟨30, .data⟩, ⟨29, .guard⟩], some (29, true)⟩) (v := undef) rfl (by kernel_rfl) (by kernel_rfl) (by kernel_rfl) (fun _ _ _ h => h) (Or.inr ⟨by rfl, rfl⟩) hHeld3 ?_
  try simp only [Act.put, List.setIfInBounds_toArray, List.set_cons_zero, List.set_cons_succ]
  refine wpAnyH_take (i := 32) (oi := ⟨some 35, .call { callee := .builtin .len, args := #[.tmp 34], argTypes := #[24] }, 3, "ref.go:65", #[⟨31, .data⟩, ⟨29, .guard⟩], some (29, true)⟩) (v := undef) rfl (by kernel_rfl) (by kernel_rfl) (by kernel_rfl) (fun _ _ _ h => h) (Or.inr ⟨by rfl, rfl⟩) hHeld3 ?_
  try simp only [Act.put, List.setIfInBounds_toArray, List.set_cons_zero, List.set_cons_succ]
  refine wpAnyH_take (i := 33) (oi := ⟨some 36, .binOp .leq 3 (.tmp 35) (.const (.int .i64 255)) 3, 4, "ref.go:65", #[⟨32, .data⟩, ⟨29, .guard⟩], some (29, true)⟩) (v := undef) rfl (by kernel_rfl) (by kernel_rfl) (by kernel_rfl) (fun _ _ _ h => h) (Or.inr ⟨by rfl, rfl⟩) hHeld3 ?_
  try simp only [Act.put, List.setIfInBounds_toArray, List.set_cons_zero, List.set_cons_succ]
  refine wpAnyH_take (i := 34) (oi := ⟨some 37, .pick (.tmp 32) (.tmp 36) (.const (.bool false)), 4, "ref.go:65", #[⟨29, .data⟩, ⟨33, .data⟩], none⟩) (v := ?_) rfl (by kernel_rfl) (by kernel_rfl) (by kernel_rfl) (fun _ _ _ h => h) (Or.inl ⟨by rfl, ?_⟩) hHeld3 ?_
  rotate_left
  · (intro w hSw; (try dsimp only at hSw); go_simp)
    try with_reducible rfl
  try simp only [Act.put, List.setIfInBounds_toArray, List.set_cons_zero, List.set_cons_succ]
  refine wpAnyH_take (i := 35) (oi := ⟨some 2, .assign (.tmp 37), 4, "ref.go:65", #[⟨34, .data⟩, ⟨29, .chain⟩, ⟨0, .phase⟩, ⟨1, .phase⟩, ⟨2, .phase⟩, ⟨3, .phase⟩, ⟨4, .phase⟩, ⟨5, .phase⟩, ⟨6, .phase⟩, ⟨7, .phase⟩, ⟨8, .phase⟩, ⟨9, .phase⟩, ⟨10, .phase⟩, ⟨11, .phase⟩, ⟨12, .phase⟩, ⟨13, .phase⟩, ⟨14, .phase⟩, ⟨15, .phase⟩, ⟨16, .phase⟩, ⟨17, .phase⟩, ⟨18, .phase⟩, ⟨19, .phase⟩, ⟨20, .phase⟩, ⟨21, .phase⟩, ⟨22, .phase⟩, ⟨23, .phase⟩, ⟨24, .phase⟩, ⟨25, .phase⟩, ⟨26, .phase⟩, ⟨27, .phase⟩, ⟨28, .phase⟩, ⟨29, .phase⟩, ⟨30, .phase⟩, ⟨31, .phase⟩, ⟨32, .phase⟩, ⟨33, .phase⟩, ⟨34, .phase⟩], none⟩) (v := ?_) rfl (by kernel_rfl) (by kernel_rfl) (by kernel_rfl) (fun _ _ _ h => h) (Or.inl ⟨by rfl, ?_⟩) hHeld3 ?_
  rotate_left
  · (intro w hSw; (try dsimp only at hSw); go_simp)
    try with_reducible rfl
  try simp only [Act.put, List.setIfInBounds_toArray, List.set_cons_zero, List.set_cons_succ]
  refine wpAnyH_done (by kernel_rfl) ?_ _
  refine NoPanic.normal ?_
  go_wp2
  go_ret
  exact ⟨rfl, HBW.out _ BW.out⟩
set_option maxRecDepth 100000 in
set_option maxHeartbeats 8000000 in
theorem good_h (h o : Int) (vp : Value) (Ac : Option Addr) (cl cc : Nat) (hp md pr ag ai : Nat) (w : World) (An : At) (q : Bool)
    (CN : Hid (∀ W, Below w.heap.size w W → Calls Tryd.prog 11 #[.agg #[.int .i64 h, .int .i64 o, vp, .int .u32 hp, .int .u32 md, .int .u32 pr, .int .u32 ag, .int .u32 ai, .slice Ac cl cc]] W (fun e w' => ∃ v, e = .returned v ∧ Attrs w' v An ∧ Below W.heap.size W w')))
    (CM : Hid (∀ v W, Attrs W v An → Below w.heap.size w W → Calls Tryd.prog 9 #[v, .agg #[.int .i64 h, .int .i64 o, vp, .int .u32 hp, .int .u32 md, .int .u32 pr, .int .u32 ag, .int .u32 ai, .slice Ac cl cc]] W (Tells (.bool true) W)))
    (CW : Hid (∀ W, Below w.heap.size w W → Calls Tryd.prog 34 #[vp] W (Tells (.bool true) W)))
    (CH : Hid (∀ W, Calls Tryd.prog 17 #[.agg #[.int .i64 h, .int .i64 o, vp, .int .u32 hp, .int .u32 md, .int .u32 pr, .int .u32 ag, .int .u32 ai, .slice Ac cl cc], .int .i64 3] W (Tells (.bool false) W)))
    (z0 : 0 ≤ o) (z1 : o ≤ 2) (z2 : decide ((cl : Int) ≤ 255) = q) : Calls Tryd.prog 8 #[.agg #[.int .i64 h, .int .i64 o, vp, .int .u32 hp, .int .u32 md, .int .u32 pr, .int .u32 ag, .int .u32 ai, .slice Ac cl cc]] w (Tells (.bool q) w) := by
  have HB := Go.Lib.hid ((Below.refl _ w).alloc (Nat.le_refl _) (.cells #[.int .i64 h, .int .i64 o, vp, .int .u32 hp, .int .u32 md, .int .u32 pr, .int .u32 ag, .int .u32 ai, .slice Ac cl cc] 26))
  have HC := Go.Lib.hid (Box9.new w 26 (.int .i64 h) (.int .i64 o) (vp) (.int .u32 hp) (.int .u32 md) (.int .u32 pr) (.int .u32 ag) (.int .u32 ai) (.slice Ac cl cc))
  go_enter Tryd.func8, Tryd.ntmps8
  go_wp2
  have HKC := Go.Lib.hid (fun (W : World) (h : Below (w.alloc (.cells #[.int .i64 h, .int .i64 o, vp, .int .u32 hp, .int .u32 md, .int .u32 pr, .int .u32 ag, .int .u32 ai, .slice Ac cl cc] 26)).heap.size (w.alloc (.cells #[.int .i64 h, .int .i64 o, vp, .int .u32 hp, .int .u32 md, .int .u32 pr, .int .u32 ag, .int .u32 ai, .slice Ac cl cc] 26)) W) => (HC.out.keep h).cells)
  have HBW := Go.Lib.hid (fun (W : World) (h : Below (w.alloc (.cells #[.int .i64 h, .int .i64 o, vp, .int .u32 hp, .int .u32 md, .int .u32 pr, .int .u32 ag, .int .u32 ai, .slice Ac cl cc] 26)).heap.size (w.alloc (.cells #[.int .i64 h, .int .i64 o, vp, .int .u32 hp, .int .u32 md, .int .u32 pr, .int .u32 ag, .int .u32 ai, .slice Ac cl cc] 26)) W) => HB.out.trans (h.mono HB.out.size))
  have BW := Go.Lib.hid ((Below.refl (w.alloc (.cells #[.int .i64 h, .int .i64 o, vp, .int .u32 hp, .int .u32 md, .int .u32 pr, .int .u32 ag, .int .u32 ai, .slice Ac cl cc] 26)).heap.size (w.alloc (.cells #[.int .i64 h, .int .i64 o, vp, .int .u32 hp, .int .u32 md, .int .u32 pr, .int .u32 ag, .int .u32 ai, .slice Ac cl cc] 26))).drew)
  refine wp_region_noPanic ?_
  refine wp_region_held_drew (S := (fun w' => w'.cell? ⟨w.heap.size, 0, none⟩ = some (.int .i64 h) ∧ w'.cell? ⟨w.heap.size, 1, none⟩ = some (.int .i64 o) ∧ w'.cell? ⟨w.heap.size, 2, none⟩ = some (vp) ∧ w'.cell? ⟨w.heap.size, 3, none⟩ = some (.int .u32 hp) ∧ w'.cell? ⟨w.heap.size, 4, none⟩ = some (.int .u32 md) ∧ w'.cell? ⟨w.heap.size, 5, none⟩ = some (.int .u32 pr) ∧ w'.cell? ⟨w.heap.size, 6, none⟩ = some (.int .u32 ag) ∧ w'.cell? ⟨w.heap.size, 7, none⟩ = some (.int .u32 ai) ∧ w'.cell? ⟨w.heap.size, 8, none⟩ = some (.slice Ac cl cc))) (by kernel_rfl) (HKC.out _ BW.out) (fun hHeld => ?_)
  refine wpAnyH_take (i := 0) (oi := ⟨some 3, .load 26 (.tmp 1), 26, "ref.go:65", #[], none⟩) (v := ?_) rfl (by kernel_rfl) (by kernel_rfl) (by kernel_rfl) (fun _ _ _ h => h) (Or.inl ⟨by rfl, ?_⟩) hHeld ?_
  rotate_left
  · (intro w hSw; (try dsimp only at hSw); go_simp)
    try with_reducible rfl
  try simp only [Act.put, List.setIfInBounds_toArray, List.set_cons_zero, List.set_cons_succ]
  refine wpAnyH_take (i := 2) (oi := ⟨some 5, .load 26 (.tmp 1), 26, "ref.go:65", #[], none⟩) (v := ?_) rfl (by kernel_rfl) (by kernel_rfl) (by kernel_rfl) (fun _ _ _ h => h) (Or.inl ⟨by rfl, ?_⟩) hHeld ?_
  rotate_left
  · (intro w hSw; (try dsimp only at hSw); go_simp)
    try with_reducible rfl
  try simp only [Act.put, List.setIfInBounds_toArray, List.set_cons_zero, List.set_cons_succ]
  refine wpAnyH_ready (rs := [1]) (by kernel_rfl) (by simp) ?_
  refine AllReadyH.cons (o := ⟨some 4, .call { callee := .value (.func 11), args := #[.tmp 3], argTypes := #[26] }, 26, "ref.go:65", #[⟨0, .data⟩], none⟩) rfl (fun K hK => ?_) AllReadyH.nil
  go_simp
  go_at_call 11; refine (CN.out _ (HBW.out _ BW.out)).mono ?_; rintro e x ⟨v1, rfl, ha, hb⟩; have U := Go.Lib.hid ha; clear ha; replace BW := Go.Lib.hid (BW.out.trans (hb.mono BW.out.size)); clear hb
  (try go_wp2_with fail)
  refine hK.out _ _ (HKC.out _ BW.out) (fun hHeld1 => ?_)
  clear hK K
  try simp only [Act.put, List.setIfInBounds_toArray, List.set_cons_zero, List.set_cons_succ]
  refine wpAnyH_ready (rs := [3]) (by kernel_rfl) (by simp) ?_
  refine AllReadyH.cons (o := ⟨some 6, .call { callee := .value (.func 9), args := #[.tmp 4, .tmp 5], argTypes := #[26, 26] }, 4, "ref.go:65", #[⟨1, .data⟩, ⟨2, .data⟩, ⟨1, .chain⟩], none⟩) rfl (fun K hK => ?_) AllReadyH.nil
  go_simp
  go_at_call 9; refine (CM.out _ _ U.out (HBW.out _ BW.out)).mono ?_; rintro e x ⟨rfl, hb⟩; replace BW := Go.Lib.hid (BW.out.trans (hb.mono BW.out.size)); clear hb
  (try go_wp2_with fail)
  refine hK.out _ _ (HKC.out _ BW.out) (fun hHeld2 => ?_)
  clear hK K
  try simp only [Act.put, List.setIfInBounds_toArray, List.set_cons_zero, List.set_cons_succ]
  refine wpAnyH_take (i := 4) (oi := ⟨some 7, .move (.tmp 6), 4, "ref.go:65", #[⟨3, .data⟩, ⟨3, .chain⟩], none⟩) (v := ?_) rfl (by kernel_rfl) (by kernel_rfl) (by kernel_rfl) (fun _ _ _ h => h) (Or.inl ⟨by rfl, ?_⟩) hHeld2 ?_
  rotate_left
  · (intro w hSw; (try dsimp only at hSw); go_simp)
    try with_reducible rfl
  try simp only [Act.put, List.setIfInBounds_toArray, List.set_cons_zero, List.set_cons_succ]
  refine wpAnyH_take (i := 5) (oi := ⟨some 8, .fieldAddr 26 (.tmp 1) 1, 0, "ref.go:65", #[⟨4, .guard⟩], some (4, true)⟩) (v := ?_) rfl (by kernel_rfl) (by kernel_rfl) (by kernel_rfl) (fun _ _ _ h => h) (Or.inl ⟨by rfl, ?_⟩) hHeld2 ?_
  rotate_left
  · (intro w hSw; (try dsimp only at hSw); go_simp)
    try with_reducible rfl
  try simp only [Act.put, List.setIfInBounds_toArray, List.set_cons_zero, List.set_cons_succ]
  refine wpAnyH_take (i := 6) (oi := ⟨some 9, .load 3 (.tmp 8), 3, "ref.go:65", #[⟨5, .data⟩, ⟨4, .guard⟩], some (4, true)⟩) (v := ?_) rfl (by kernel_rfl) (by kernel_rfl) (by kernel_rfl) (fun _ _ _ h => h) (Or.inl ⟨by rfl, ?_⟩) hHeld2 ?_
  rotate_left
  · (intro w hSw; (try dsimp only at hSw); go_simp)
    try with_reducible rfl
  try simp only [Act.put, List.setIfInBounds_toArray, List.set_cons_zero, List.set_cons_succ]
  refine wpAnyH_take (i := 7) (oi := ⟨some 10, .binOp .geq 3 (.tmp 9) (.const (.int .i64 0)) 3, 4, "ref.go:65", #[⟨6, .data⟩, ⟨4, .guard⟩], some (4, true)⟩) (v := ?_) rfl (by kernel_rfl) (by kernel_rfl) (by kernel_rfl) (fun _ _ _ h => h) (Or.inl ⟨by rfl, ?_⟩) hHeld2 ?_
  rotate_left
  · (intro w hSw; (try dsimp only at hSw); go_simp)
    try with_reducible rfl
  try simp only [Act.put, List.setIfInBounds_toArray, List.set_cons_zero, List.set_cons_succ]
  refine wpAnyH_take (i := 8) (oi := ⟨some 11, .pick (.tmp 7) (.tmp 10) (.const (.bool false)), 4, "ref.go:65", #[⟨4, .data⟩, ⟨7, .data⟩], none⟩) (v := ?_) rfl (by kernel_rfl) (by kernel_rfl) (by kernel_rfl) (fun _ _ _ h => h) (Or.inl ⟨by rfl, ?_⟩) hHeld2 ?_
  rotate_left
  · (intro w hSw; (try dsimp only at hSw); go_simp)
    try with_reducible rfl
  try simp only [Act.put, List.setIfInBounds_toArray, List.set_cons_zero, List.set_cons_succ]
  refine wpAnyH_take (i := 9) (oi := ⟨some 12, .move (.tmp 11), 4, "ref.go:65", #[⟨8, .data⟩, ⟨4, .chain⟩], none⟩) (v := ?_) rfl (by kernel_rfl) (by kernel_rfl) (by kernel_rfl) (fun _ _ _ h => h) (Or.inl ⟨by rfl, ?_⟩) hHeld2 ?_
  rotate_left
  · (intro w hSw; (try dsimp only at hSw); go_simp)
    try with_reducible rfl
  try simp only [Act.put, List.setIfInBounds_toArray, List.set_cons_zero, List.set_cons_succ]
  refine wpAnyH_take (i := 10) (oi := ⟨some 13, .fieldAddr 26 (.tmp 1) 1, 0, "ref.go:65", #[⟨9, .guard⟩], some (9, true)⟩) (v := ?_) rfl (by kernel_rfl) (by kernel_rfl) (by kernel_rfl) (fun _ _ _ h => h) (Or.inl ⟨by rfl, ?_⟩) hHeld2 ?_
  rotate_left
  · (intro w hSw; (try dsimp only at hSw); go_simp)
    try with_reducible rfl
  try simp only [Act.put, List.setIfInBounds_toArray, List.set_cons_zero, List.set_cons_succ]
  refine wpAnyH_take (i := 11) (oi := ⟨some 14, .load 3 (.tmp 13), 3, "ref.go:65", #[⟨10, .data⟩, ⟨9, .guard⟩], some (9, true)⟩) (v := ?_) rfl (by kernel_rfl) (by kernel_rfl) (by kernel_rfl) (fun _ _ _ h => h) (Or.inl ⟨by rfl, ?_⟩) hHeld2 ?_
  rotate_left
  · (intro w hSw; (try dsimp only at hSw); go_simp)
    try with_reducible rfl
  try simp only [Act.put, List.setIfInBounds_toArray, List.set_cons_zero, List.set_cons_succ]
  refine wpAnyH_take (i := 12) (oi := ⟨some 15, .binOp .leq 3 (.tmp 14) (.const (.int .i64 2)) 3, 4, "ref.go:65", #[⟨11, .data⟩, ⟨9, .guard⟩], some (9, true)⟩) (v := ?_) rfl (by kernel_rfl) (by kernel_rfl) (by kernel_rfl) (fun _ _ _ h => h) (Or.inl ⟨by rfl, ?_⟩) hHeld2 ?_
  rotate_left
  · (intro w hSw; (try dsimp only at hSw); go_simp)
    try with_reducible rfl
  try simp only [Act.put, List.setIfInBounds_toArray, List.set_cons_zero, List.set_cons_succ]
  refine wpAnyH_take (i := 13) (oi := ⟨some 16, .pick (.tmp 12) (.tmp 15) (.const (.bool false)), 4, "ref.go:65", #[⟨9, .data⟩, ⟨12, .data⟩], none⟩) (v := ?_) rfl (by kernel_rfl) (by kernel_rfl) (by kernel_rfl) (fun _ _ _ h => h) (Or.inl ⟨by rfl, ?_⟩) hHeld2 ?_
  rotate_left
  · (intro w hSw; (try dsimp only at hSw); go_simp)
    try with_reducible rfl
  try simp only [Act.put, List.setIfInBounds_toArray, List.set_cons_zero, List.set_cons_succ]
  refine wpAnyH_take (i := 14) (oi := ⟨some 17, .move (.tmp 16), 4, "ref.go:65", #[⟨13, .data⟩, ⟨9, .chain⟩], none⟩) (v := ?_) rfl (by kernel_rfl) (by kernel_rfl) (by kernel_rfl) (fun _ _ _ h => h) (Or.inl ⟨by rfl, ?_⟩) hHeld2 ?_
  rotate_left
  · (intro w hSw; (try dsimp only at hSw); go_simp)
    try with_reducible rfl
  try simp only [Act.put, List.setIfInBounds_toArray, List.set_cons_zero, List.set_cons_succ]
  refine wpAnyH_take (i := 15) (oi := ⟨some 18, .fieldAddr 26 (.tmp 1) 2, 0, "ref.go:65", #[⟨14, .guard⟩], some (14, true)⟩) (v := ?_) rfl (by kernel_rfl) (by kernel_rfl) (by kernel_rfl) (fun _ _ _ h => h) (Or.inl ⟨by rfl, ?_⟩) hHeld2 ?_
  rotate_left
  · (intro w hSw; (try dsimp only at hSw); go_simp)
    try with_reducible rfl
  try simp only [Act.put, List.setIfInBounds_toArray, List.set_cons_zero, List.set_cons_succ]
  refine wpAnyH_take (i := 16) (oi := ⟨some 19, .load 22 (.tmp 18), 22, "ref.go:65", #[⟨15, .data⟩, ⟨14, .guard⟩], some (14, true)⟩) (v := ?_) rfl (by kernel_rfl) (by kernel_rfl) (by kernel_rfl) (fun _ _ _ h => h) (Or.inl ⟨by rfl, ?_⟩) hHeld2 ?_
  rotate_left
  · (intro w hSw; (try dsimp only at hSw); go_simp)
    try with_reducible rfl
  try simp only [Act.put, List.setIfInBounds_toArray, List.set_cons_zero, List.set_cons_succ]
  refine wpAnyH_ready (rs := [17]) (by kernel_rfl) (by simp) ?_
  refine AllReadyH.cons (o := ⟨some 20, .call { callee := .value (.func 34), args := #[.tmp 19], argTypes := #[22] }, 4, "ref.go:65", #[⟨16, .data⟩, ⟨14, .chain⟩, ⟨14, .guard⟩], some (14, true)⟩) rfl (fun K hK => ?_) AllReadyH.nil
  go_simp
  go_at_call 34; refine (CW.out _ (HBW.out _ BW.out)).mono ?_; rintro e x ⟨rfl, hb⟩; replace BW := Go.Lib.hid (BW.out.trans (hb.mono BW.out.size)); clear hb
  (try go_wp2_with fail)
  refine hK.out _ _ (HKC.out _ BW.out) (fun hHeld3 => ?_)
  clear hK K
  try simp only [Act.put, List.setIfInBounds_toArray, List.set_cons_zero, List.set_cons_succ]
  refine wpAnyH_take (i := 18) (oi := ⟨some 21, .pick (.tmp 17) (.tmp 20) (.const (.bool false)), 4, "ref.go:65", #[⟨14, .data⟩, ⟨17, .data⟩], none⟩) (v := ?_) rfl (by kernel_rfl) (by kernel_rfl) (by kernel_rfl) (fun _ _ _ h => h) (Or.inl ⟨by rfl, ?_⟩) hHeld3 ?_
  rotate_left
  · (intro w hSw; (try dsimp only at hSw); go_simp)
    try with_reducible rfl
  try simp only [Act.put, List.setIfInBounds_toArray, List.set_cons_zero, List.set_cons_succ]
  refine wpAnyH_take (i := 19) (oi := ⟨some 22, .move (.tmp 21), 4, "ref.go:65", #[⟨18, .data⟩, ⟨17, .chain⟩], none⟩) (v := ?_) rfl (by kernel_rfl) (by kernel_rfl) (by kernel_rfl) (fun _ _ _ h => h) (Or.inl ⟨by rfl, ?_⟩) hHeld3 ?_
  rotate_left
  · (intro w hSw; (try dsimp only at hSw); go_simp)
    try with_reducible rfl
  try simp only [Act.put, List.setIfInBounds_toArray, List.set_cons_zero, List.set_cons_succ]
  refine wpAnyH_take (i := 20) (oi := ⟨some 23, .load 26 (.tmp 1), 26, "ref.go:65", #[⟨19, .guard⟩], some (19, true)⟩) (v := ?_) rfl (by kernel_rfl) (by kernel_rfl) (by kernel_rfl) (fun _ _ _ h => h) (Or.inl ⟨by rfl, ?_⟩) hHeld3 ?_
  rotate_left
  · (intro w hSw; (try dsimp only at hSw); go_simp)
    try with_reducible rfl
  try simp only [Act.put, List.setIfInBounds_toArray, List.set_cons_zero, List.set_cons_succ]
  refine wpAnyH_ready (rs := [21]) (by kernel_rfl) (by simp) ?_
  refine AllReadyH.cons (o := ⟨some 24, .call { callee := .value (.func 17), args := #[.tmp 23, .const (.int .i64 3)], argTypes := #[26, 3] }, 4, "ref.go:65", #[⟨20, .data⟩, ⟨19, .chain⟩, ⟨19, .guard⟩], some (19, true)⟩) rfl (fun K hK => ?_) AllReadyH.nil
  go_simp
  go_at_call 17; refine (CH.out _).mono ?_; rintro e x ⟨rfl, hb⟩; replace BW := Go.Lib.hid (BW.out.trans (hb.mono BW.out.size)); clear hb
  (try go_wp2_with fail)
  refine hK.out _ _ (HKC.out _ BW.out) (fun hHeld4 => ?_)
  clear hK K
  try simp only [Act.put, List.setIfInBounds_toArray, List.set_cons_zero, List.set_cons_succ]
  refine wpAnyH_take (i := 22) (oi := ⟨some 25, .unOp .not 4 (.tmp 24), 4, "ref.go:65", #[⟨21, .data⟩, ⟨19, .guard⟩], some (19, true)⟩) (v := ?_) rfl (by kernel_rfl) (by kernel_rfl) (by kernel_rfl) (fun _ _ _ h => h) (Or.inl ⟨by rfl, ?_⟩) hHeld4 ?_
  rotate_left
  · (intro w hSw; (try dsimp only at hSw); go_simp)
    try with_reducible rfl
  try simp only [Act.put, List.setIfInBounds_toArray, List.set_cons_zero, List.set_cons_succ]
  refine wpAnyH_take (i := 23) (oi := ⟨some 26, .move (.tmp 25), 4, "ref.go:65", #[⟨22, .data⟩, ⟨21, .chain⟩, ⟨19, .guard⟩], some (19, true)⟩) (v := ?_) rfl (by kernel_rfl) (by kernel_rfl) (by kernel_rfl) (fun _ _ _ h => h) (Or.inl ⟨by rfl, ?_⟩) hHeld4 ?_
  rotate_left
  · (intro w hSw; (try dsimp only at hSw); go_simp)
    try with_reducible rfl
  try simp only [Act.put, List.setIfInBounds_toArray, List.set_cons_zero, List.set_cons_succ]
  refine wpAnyH_take (i := 24) (oi := ⟨some 27, .fieldAddr 26 (.tmp 1) 3, 0, "ref.go:65", #[⟨23, .guard⟩], some (23, false)⟩) (v := undef) rfl (by kernel_rfl) (by kernel_rfl) (by kernel_rfl) (fun _ _ _ h => h) (Or.inr ⟨by rfl, rfl⟩) hHeld4 ?_
  try simp only [Act.put, List.setIfInBounds_toArray, List.set_cons_zero, List.set_cons_succ]
  refine wpAnyH_take (i := 25) (oi := ⟨some 28, .load 23 (.tmp 27), 23, "ref.go:65", #[⟨24, .data⟩, ⟨23, .guard⟩], some (23, false)⟩) (v := undef) rfl (by kernel_rfl) (by kernel_rfl) (by kernel_rfl) (fun _ _ _ h => h) (Or.inr ⟨by rfl, rfl⟩) hHeld4 ?_
  try simp only [Act.put, List.setIfInBounds_toArray, List.set_cons_zero, List.set_cons_succ]
  refine wpAnyH_take (i := 26) (oi := ⟨some 29, .call { callee := .value (.func 16), args := #[.tmp 28], argTypes := #[23] }, 4, "ref.go:65", #[⟨25, .data⟩, ⟨23, .chain⟩, ⟨23, .guard⟩], some (23, false)⟩) (v := undef) rfl (by kernel_rfl) (by kernel_rfl) (by kernel_rfl) (fun _ _ _ h => h) (Or.inr ⟨by rfl, rfl⟩) hHeld4 ?_
  try simp only [Act.put, List.setIfInBounds_toArray, List.set_cons_zero, List.set_cons_succ]
  refine wpAnyH_take (i := 27) (oi := ⟨some 30, .pick (.tmp 26) (.const (.bool true)) (.tmp 29), 4, "ref.go:65", #[⟨23, .data⟩, ⟨26, .data⟩, ⟨19, .guard⟩], some (19, true)⟩) (v := ?_) rfl (by kernel_rfl) (by kernel_rfl) (by kernel_rfl) (fun _ _ _ h => h) (Or.inl ⟨by rfl, ?_⟩) hHeld4 ?_
  rotate_left
  · (intro w hSw; (try dsimp only at hSw); go_simp)
    try with_reducible rfl
  try simp only [Act.put, List.setIfInBounds_toArray, List.set_cons_zero, List.set_cons_succ]
  refine wpAnyH_take (i := 28) (oi := ⟨some 31, .pick (.tmp 22) (.tmp 30) (.const (.bool false)), 4, "ref.go:65", #[⟨19, .data⟩, ⟨27, .data⟩], none⟩) (v := ?_) rfl (by kernel_rfl) (by kernel_rfl) (by kernel_rfl) (fun _ _ _ h => h) (Or.inl ⟨by rfl, ?_⟩) hHeld4 ?_
  rotate_left
  · (intro w hSw; (try dsimp only at hSw); go_simp)
    try with_reducible rfl
  try simp only [Act.put, List.setIfInBounds_toArray, List.set_cons_zero, List.set_cons_succ]
  refine wpAnyH_take (i := 29) (oi := ⟨some 32, .move (.tmp 31), 4, "ref.go:65", #[⟨28, .data⟩, ⟨26, .chain⟩], none⟩) (v := ?_) rfl (by kernel_rfl) (by kernel_rfl) (by kernel_rfl) (fun _ _ _ h => h) (Or.inl ⟨by rfl, ?_⟩) hHeld4 ?_
  rotate_left
  · (intro w hSw; (try dsimp only at hSw); go_simp)
    try with_reducible rfl
  try simp only [Act.put, List.setIfInBounds_toArray, List.set_cons_zero, List.set_cons_succ]
  refine wpAnyH_take (i := 30) (oi := ⟨some 33, .fieldAddr 26 (.tmp 1) 8, 0, "ref.go:65", #[⟨29, .guard⟩], some (29, true)⟩) (v := ?_) rfl (by kernel_rfl) (by kernel_rfl) (by kernel_rfl) (fun _ _ _ h => h) (Or.inl ⟨by rfl, ?_⟩) hHeld4 ?_
  rotate_left
  · (intro w hSw; (try dsimp only at hSw); go_simp)
    try with_reducible rfl
  try simp only [Act.put, List.setIfInBounds_toArray, List.set_cons_zero, List.set_cons_succ]
  refine wpAnyH_take (i := 31) (oi := ⟨some 34, .load 24 (.tmp 33), 24, "ref.go:65", #[⟨30, .data⟩, ⟨29, .guard⟩], some (29, true)⟩) (v := ?_) rfl (by kernel_rfl) (by kernel_rfl) (by kernel_rfl) (fun _ _ _ h => h) (Or.inl ⟨by rfl, ?_⟩) hHeld4 ?_
  rotate_left
  · (intro w hSw; (try dsimp only at hSw); go_simp)
    try with_reducible rfl
  try simp only [Act.put, List.setIfInBounds_toArray, List.set_cons_zero, List.set_cons_succ]
  refine wpAnyH_take (i := 32) (oi := ⟨some 35, .call { callee := .builtin .len, args := #[.tmp 34], argTypes := #[24] }, 3, "ref.go:65", #[⟨31, .data⟩, ⟨29, .guard⟩], some (29, true)⟩) (v := ?_) rfl (by kernel_rfl) (by kernel_rfl) (by kernel_rfl) (fun _ _ _ h => h) (Or.inl ⟨by rfl, ?_⟩) hHeld4 ?_
  rotate_left
  · (intro w hSw; (try dsimp only at hSw); go_simp)
    try with_reducible rfl
  try simp only [Act.put, List.setIfInBounds_toArray, List.set_cons_zero, List.set_cons_succ]
  refine wpAnyH_take (i := 33) (oi := ⟨some 36, .binOp .leq 3 (.tmp 35) (.const (.int .i64 255)) 3, 4, "ref.go:65", #[⟨32, .data⟩, ⟨29, .guard⟩], some (29, true)⟩) (v := ?_) rfl (by kernel_rfl) (by kernel_rfl) (by kernel_rfl) (fun _ _ _ h => h) (Or.inl ⟨by rfl, ?_⟩) hHeld4 ?_
  rotate_left
  · (intro w hSw; (try dsimp only at hSw); go_simp)
    try with_reducible rfl
  try simp only [Act.put, List.setIfInBounds_toArray, List.set_cons_zero, List.set_cons_succ]
  refine wpAnyH_take (i := 34) (oi := ⟨some 37, .pick (.tmp 32) (.tmp 36) (.const (.bool false)), 4, "ref.go:65", #[⟨29, .data⟩, ⟨33, .data⟩], none⟩) (v := ?_) rfl (by kernel_rfl) (by kernel_rfl) (by kernel_rfl) (fun _ _ _ h => h) (Or.inl ⟨by rfl, ?_⟩) hHeld4 ?_
  rotate_left
  · (intro w hSw; (try dsimp only at hSw); go_simp)
    try with_reducible rfl
  try simp only [Act.put, List.setIfInBounds_toArray, List.set_cons_zero, List.set_cons_succ]
  refine wpAnyH_take (i := 35) (oi := ⟨some 2, .assign (.tmp 37), 4, "ref.go:65", #[⟨34, .data⟩, ⟨29, .chain⟩, ⟨0, .phase⟩, ⟨1, .phase⟩, ⟨2, .phase⟩, ⟨3, .phase⟩, ⟨4, .phase⟩, ⟨5, .phase⟩, ⟨6, .phase⟩, ⟨7, .phase⟩, ⟨8, .phase⟩, ⟨9, .phase⟩, ⟨10, .phase⟩, ⟨11, .phase⟩, ⟨12, .phase⟩, ⟨13, .phase⟩, ⟨14, .phase⟩, ⟨15, .phase⟩, ⟨16, .phase⟩, ⟨17, .phase⟩, ⟨18, .phase⟩, ⟨19, .phase⟩, ⟨20, .phase⟩, ⟨21, .phase⟩, ⟨22, .phase⟩, ⟨23, .phase⟩, ⟨24, .phase⟩, ⟨25, .phase⟩, ⟨26, .phase⟩, ⟨27, .phase⟩, ⟨28, .phase⟩, ⟨29, .phase⟩, ⟨30, .phase⟩, ⟨31, .phase⟩, ⟨32, .phase⟩, ⟨33, .phase⟩, ⟨34, .phase⟩], none⟩) (v := ?_) rfl (by kernel_rfl) (by kernel_rfl) (by kernel_rfl) (fun _ _ _ h => h) (Or.inl ⟨by rfl, ?_⟩) hHeld4 ?_
  rotate_left
  · (intro w hSw; (try dsimp only at hSw); go_simp)
    try with_reducible rfl
  try simp only [Act.put, List.setIfInBounds_toArray, List.set_cons_zero, List.set_cons_succ]
  refine wpAnyH_done (by kernel_rfl) ?_ _
  refine NoPanic.normal ?_
  go_wp2
  go_ret
  exact ⟨rfl, HBW.out _ BW.out⟩
set_option maxRecDepth 100000 in
set_option maxHeartbeats 8000000 in
theorem good_x (h o : Int) (vp : Value) (Ac : Option Addr) (cl cc : Nat) (hp md pr ag ai : Nat) (w : World) (An : At)
    (CN : Hid (∀ W, Below w.heap.size w W → Calls Tryd.prog 11 #[.agg #[.int .i64 h, .int .i64 o, vp, .int .u32 hp, .int .u32 md, .int .u32 pr, .int .u32 ag, .int .u32 ai, .slice Ac cl cc]] W (fun e w' => ∃ v, e = .returned v ∧ Attrs w' v An ∧ Below W.heap.size W w')))
    (CM : Hid (∀ v W, Attrs W v An → Below w.heap.size w W → Calls Tryd.prog 9 #[v, .agg #[.int .i64 h, .int .i64 o, vp, .int .u32 hp, .int .u32 md, .int .u32 pr, .int .u32 ag, .int .u32 ai, .slice Ac cl cc]] W (Tells (.bool true) W)))
    (CW : Hid (∀ W, Below w.heap.size w W → Calls Tryd.prog 34 #[vp] W (Tells (.bool true) W)))
    (CH : Hid (∀ W, Calls Tryd.prog 17 #[.agg #[.int .i64 h, .int .i64 o, vp, .int .u32 hp, .int .u32 md, .int .u32 pr, .int .u32 ag, .int .u32 ai, .slice Ac cl cc], .int .i64 3] W (Tells (.bool true) W)))
    (CP : Hid (∀ W, Calls Tryd.prog 16 #[.int .u32 hp] W (Tells (.bool false) W)))
    (z0 : 0 ≤ o) (z1 : o ≤ 2) : Calls Tryd.prog 8 #[.agg #[.int .i64 h, .int .i64 o, vp, .int .u32 hp, .int .u32 md, .int .u32 pr, .int .u32 ag, .int .u32 ai, .slice Ac cl cc]] w (Tells (.bool false) w) := by
  have HB := Go.Lib.hid ((Below.refl _ w).alloc (Nat.le_refl _) (.cells #[.int .i64 h, .int .i64 o, vp, .int .u32 hp, .int .u32 md, .int .u32 pr, .int .u32 ag, .int .u32 ai, .slice Ac cl cc] 26))
  have HC := Go.Lib.hid (Box9.new w 26 (.int .i64 h) (.int .i64 o) (vp) (.int .u32 hp) (.int .u32 md) (.int .u32 pr) (.int .u32 ag) (.int .u32 ai) (.slice Ac cl cc))
  go_enter Tryd.func8, Tryd.ntmps8
  go_wp2
  have HKC := Go.Lib.hid (fun (W : World) (h : Below (w.alloc (.cells #[.int .i64 h, .int .i64 o, vp, .int .u32 hp, .int .u32 md, .int .u32 pr, .int .u32 ag, .int .u32 ai, .slice Ac cl cc] 26)).heap.size (w.alloc (.cells #[.int .i64 h, .int .i64 o, vp, .int .u32 hp, .int .u32 md, .int .u32 pr, .int .u32 ag, .int .u32 ai, .slice Ac cl cc] 26)) W) => (HC.out.keep h).cells)
  have HBW := Go.Lib.hid (fun (W : World) (h : Below (w.alloc (.cells #[.int .i64 h, .int .i64 o, vp, .int .u32 hp, .int .u32 md, .int .u32 pr, .int .u32 ag, .int .u32 ai, .slice Ac cl cc] 26)).heap.size (w.alloc (.cells #[.int .i64 h, .int .i64 o, vp, .int .u32 hp, .int .u32 md, .int .u32 pr, .int .u32 ag, .int .u32 ai, .slice Ac cl cc] 26)) W) => HB.out.trans (h.mono HB.out.size))
  have BW := Go.Lib.hid ((Below.refl (w.alloc (.cells #[.int .i64 h, .int .i64 o, vp, .int .u32 hp, .int .u32 md, .int .u32 pr, .int .u32 ag, .int .u32 ai, .slice Ac cl cc] 26)).heap.size (w.alloc (.cells #[.int .i64 h, .int .i64 o, vp, .int .u32 hp, .int .u32 md, .int .u32 pr, .int .u32 ag, .int .u32 ai, .slice Ac cl cc] 26))).drew)
  refine wp_region_noPanic ?_
  refine wp_region_held_drew (S := (fun w' => w'.cell? ⟨w.heap.size, 0, none⟩ = some (.int .i64 h) ∧ w'.cell? ⟨w.heap.size, 1, none⟩ = some (.int .i64 o) ∧ w'.cell? ⟨w.heap.size, 2, none⟩ = some (vp) ∧ w'.cell? ⟨w.heap.size, 3, none⟩ = some (.int .u32 hp) ∧ w'.cell? ⟨w.heap.size, 4, none⟩ = some (.int .u32 md) ∧ w'.cell? ⟨w.heap.size, 5, none⟩ = some (.int .u32 pr) ∧ w'.cell? ⟨w.heap.size, 6, none⟩ = some (.int .u32 ag) ∧ w'.cell? ⟨w.heap.size, 7, none⟩ = some (.int .u32 ai) ∧ w'.cell? ⟨w.heap.size, 8, none⟩ = some (.slice Ac cl cc))) (by kernel_rfl) (HKC.out _ BW.out) (fun hHeld => ?_)
  refine wpAnyH_take (i := 0) (oi := ⟨some 3, .load 26 (.tmp 1), 26, "ref.go:65", #[], none⟩) (v := ?_) rfl (by kernel_rfl) (by kernel_rfl) (by kernel_rfl) (fun _ _ _ h => h) (Or.inl ⟨by rfl, ?_⟩) hHeld ?_
  rotate_left
  · (intro w hSw; (try dsimp only at hSw); go_simp)
    try with_reducible rfl
  try simp only [Act.put, List.setIfInBounds_toArray, List.set_cons_zero, List.set_cons_succ]
  refine wpAnyH_take (i := 2) (oi := ⟨some 5, .load 26 (.tmp 1), 26, "ref.go:65", #[], none⟩) (v := ?_) rfl (by kernel_rfl) (by kernel_rfl) (by kernel_rfl) (fun _ _ _ h => h) (Or.inl ⟨by rfl, ?_⟩) hHeld ?_
  rotate_left
  · (intro w hSw; (try dsimp only at hSw); go_simp)
    try with_reducible rfl
  try simp only [Act.put, List.setIfInBounds_toArray, List.set_cons_zero, List.set_cons_succ]
  refine wpAnyH_ready (rs := [1]) (by kernel_rfl) (by simp) ?_
  refine AllReadyH.cons (o := ⟨some 4, .call { callee := .value (.func 11), args := #[.tmp 3], argTypes := #[26] }, 26, "ref.go:65", #[⟨0, .data⟩], none⟩) rfl (fun K hK => ?_) AllReadyH.nil
  go_simp
  go_at_call 11; refine (CN.out _ (HBW.out _ BW.out)).mono ?_; rintro e x ⟨v1, rfl, ha, hb⟩; have U := Go.Lib.hid ha; clear ha; replace BW := Go.Lib.hid (BW.out.trans (hb.mono BW.out.size)); clear hb
  (try go_wp2_with fail)
  refine hK.out _ _ (HKC.out _ BW.out) (fun hHeld1 => ?_)
  clear hK K
  try simp only [Act.put, List.setIfInBounds_toArray, List.set_cons_zero, List.set_cons_succ]
  refine wpAnyH_ready (rs := [3]) (by kernel_rfl) (by simp) ?_
  refine AllReadyH.cons (o := ⟨some 6, .call { callee := .value (.func 9), args := #[.tmp 4, .tmp 5], argTypes := #[26, 26] }, 4, "ref.go:65", #[⟨1, .data⟩, ⟨2, .data⟩, ⟨1, .chain⟩], none⟩) rfl (fun K hK => ?_) AllReadyH.nil
  go_simp
  go_at_call 9; refine (CM.out _ _ U.out (HBW.out _ BW.out)).mono ?_; rintro e x ⟨rfl, hb⟩; replace BW := Go.Lib.hid (BW.out.trans (hb.mono BW.out.size)); clear hb
  (try go_wp2_with fail)
  refine hK.out _ _ (HKC.out _ BW.out) (fun hHeld2 => ?_)
  clear hK K
  try simp only [Act.put, List.setIfInBounds_toArray, List.set_cons_zero, List.set_cons_succ]
  refine wpAnyH_take (i := 4) (oi := ⟨some 7, .move (.tmp 6), 4, "ref.go:65", #[⟨3, .data⟩, ⟨3, .chain⟩], none⟩) (v := ?_) rfl (by kernel_rfl) (by kernel_rfl) (by kernel_rfl) (fun _ _ _ h => h) (Or.inl ⟨by rfl, ?_⟩) hHeld2 ?_
  rotate_left
  · (intro w hSw; (try dsimp only at hSw); go_simp)
    try with_reducible rfl
  try simp only [Act.put, List.setIfInBounds_toArray, List.set_cons_zero, List.set_cons_succ]
  refine wpAnyH_take (i := 5) (oi := ⟨some 8, .fieldAddr 26 (.tmp 1) 1, 0, "ref.go:65", #[⟨4, .guard⟩], some (4, true)⟩) (v := ?_) rfl (by kernel_rfl) (by kernel_rfl) (by kernel_rfl) (fun _ _ _ h => h) (Or.inl ⟨by rfl, ?_⟩) hHeld2 ?_
  rotate_left
  · (intro w hSw; (try dsimp only at hSw); go_simp)
    try with_reducible rfl
  try simp only [Act.put, List.setIfInBounds_toArray, List.set_cons_zero, List.set_cons_succ]
  refine wpAnyH_take (i := 6) (oi := ⟨some 9, .load 3 (.tmp 8), 3, "ref.go:65", #[⟨5, .data⟩, ⟨4, .guard⟩], some (4, true)⟩) (v := ?_) rfl (by kernel_rfl) (by kernel_rfl) (by kernel_rfl) (fun _ _ _ h => h) (Or.inl ⟨by rfl, ?_⟩) hHeld2 ?_
  rotate_left
  · (intro w hSw; (try dsimp only at hSw); go_simp)
    try with_reducible rfl
  try simp only [Act.put, List.setIfInBounds_toArray, List.set_cons_zero, List.set_cons_succ]
  refine wpAnyH_take (i := 7) (oi := ⟨some 10, .binOp .geq 3 (.tmp 9) (.const (.int .i64 0)) 3, 4, "ref.go:65", #[⟨6, .data⟩, ⟨4, .guard⟩], some (4, true)⟩) (v := ?_) rfl (by kernel_rfl) (by kernel_rfl) (by kernel_rfl) (fun _ _ _ h => h) (Or.inl ⟨by rfl, ?_⟩) hHeld2 ?_
  rotate_left
  · (intro w hSw; (try dsimp only at hSw); go_simp)
    try with_reducible rfl
  try simp only [Act.put, List.setIfInBounds_toArray, List.set_cons_zero, List.set_cons_succ]
  refine wpAnyH_take (i := 8) (oi := ⟨some 11, .pick (.tmp 7) (.tmp 10) (.const (.bool false)), 4, "ref.go:65", #[⟨4, .data⟩, ⟨7, .data⟩], none⟩) (v := ?_) rfl (by kernel_rfl) (by kernel_rfl) (by kernel_rfl) (fun _ _ _ h => h) (Or.inl ⟨by rfl, ?_⟩) hHeld2 ?_
  rotate_left
  · (intro w hSw; (try dsimp only at hSw); go_simp)
    try with_reducible rfl
  try simp only [Act.put, List.setIfInBounds_toArray, List.set_cons_zero, List.set_cons_succ]
  refine wpAnyH_take (i := 9) (oi := ⟨some 12, .move (.tmp 11), 4, "ref.go:65", #[⟨8, .data⟩, ⟨4, .chain⟩], none⟩) (v := ?_) rfl (by kernel_rfl) (by kernel_rfl) (by kernel_rfl) (fun _ _ _ h => h) (Or.inl ⟨by rfl, ?_⟩) hHeld2 ?_
  rotate_left
  · (intro w hSw; (try dsimp only at hSw); go_simp)
    try with_reducible rfl
  try simp only [Act.put, List.setIfInBounds_toArray, List.set_cons_zero, List.set_cons_succ]
  refine wpAnyH_take (i := 10) (oi := ⟨some 13, .fieldAddr 26 (.tmp 1) 1, 0, "ref.go:65", #[⟨9, .guard⟩], some (9, true)⟩) (v := ?_) rfl (by kernel_rfl) (by kernel_rfl) (by kernel_rfl) (fun _ _ _ h => h) (Or.inl ⟨by rfl, ?_⟩) hHeld2 ?_
  rotate_left
  · (intro w hSw; (try dsimp only at hSw); go_simp)
    try with_reducible rfl
  try simp only [Act.put, List.setIfInBounds_toArray, List.set_cons_zero, List.set_cons_succ]
  refine wpAnyH_take (i := 11) (oi := ⟨some 14, .load 3 (.tmp 13), 3, "ref.go:65", #[⟨10, .data⟩, ⟨9, .guard⟩], some (9, true)⟩) (v := ?_) rfl (by kernel_rfl) (by kernel_rfl) (by kernel_rfl) (fun _ _ _ h => h) (Or.inl ⟨by rfl, ?_⟩) hHeld2 ?_
  rotate_left
  · (intro w hSw; (try dsimp only at hSw); go_simp)
    try with_reducible rfl
  try simp only [Act.put, List.setIfInBounds_toArray, List.set_cons_zero, List.set_cons_succ]
  refine wpAnyH_take (i := 12) (oi := ⟨some 15, .binOp .leq 3 (.tmp 14) (.const (.int .i64 2)) 3, 4, "ref.go:65", #[⟨11, .data⟩, ⟨9, .guard⟩], some (9, true)⟩) (v := ?_) rfl (by kernel_rfl) (by kernel_rfl) (by kernel_rfl) (fun _ _ _ h => h) (Or.inl ⟨by rfl, ?_⟩) hHeld2 ?_
  rotate_left
  · (intro w hSw; (try dsimp only at hSw); go_simp)
    try with_reducible rfl
  try simp only [Act.put, List.setIfInBounds_toArray, List.set_cons_zero, List.set_cons_succ]
  refine wpAnyH_take (i := 13) (oi := ⟨some 16, .pick (.tmp 12) (.tmp 15) (.const (.bool false)), 4, "ref.go:65", #[⟨9, .data⟩, ⟨12, .data⟩], none⟩) (v := ?_) rfl (by kernel_rfl) (by kernel_rfl) (by kernel_rfl) (fun _ _ _ h => h) (Or.inl ⟨by rfl, ?_⟩) hHeld2 ?_
  rotate_left
  · (intro w hSw; (try dsimp only at hSw); go_simp)
    try with_reducible rfl
  try simp only [Act.put, List.setIfInBounds_toArray, List.set_cons_zero, List.set_cons_succ]
  refine wpAnyH_take (i := 14) (oi := ⟨some 17, .move (.tmp 16), 4, "ref.go:65", #[⟨13, .data⟩, ⟨9, .chain⟩], none⟩) (v := ?_) rfl (by kernel_rfl) (by kernel_rfl) (by kernel_rfl) (fun _ _ _ h => h) (Or.inl ⟨by rfl, ?_⟩) hHeld2 ?_
  rotate_left
  · (intro w hSw; (try dsimp only at hSw); go_simp)
    try with_reducible rfl
  try simp only [Act.put, List.setIfInBounds_toArray, List.set_cons_zero, List.set_cons_succ]
  refine wpAnyH_take (i := 15) (oi := ⟨some 18, .fieldAddr 26 (.tmp 1) 2, 0, "ref.go:65", #[⟨14, .guard⟩], some (14, true)⟩) (v := ?_) rfl (by kernel_rfl) (by kernel_rfl) (by kernel_rfl) (fun _ _ _ h => h) (Or.inl ⟨by rfl, ?_⟩) hHeld2 ?_
  rotate_left
  · (intro w hSw; (try dsimp only at hSw); go_simp)
    try with_reducible rfl
  try simp only [Act.put, List.setIfInBounds_toArray, List.set_cons_zero, List.set_cons_succ]
  refine wpAnyH_take (i := 16) (oi := ⟨some 19, .load 22 (.tmp 18), 22, "ref.go:65", #[⟨15, .data⟩, ⟨14, .guard⟩], some (14, true)⟩) (v := ?_) rfl (by kernel_rfl) (by kernel_rfl) (by kernel_rfl) (fun _ _ _ h => h) (Or.inl ⟨by rfl, ?_⟩) hHeld2 ?_
  rotate_left
  · (intro w hSw; (try dsimp only at hSw); go_simp)
    try with_reducible rfl
  try simp only [Act.put, List.setIfInBounds_toArray, List.set_cons_zero, List.set_cons_succ]
  refine wpAnyH_ready (rs := [17]) (by kernel_rfl) (by simp) ?_
  refine AllReadyH.cons (o := ⟨some 20, .call { callee := .value (.func 34), args := #[.tmp 19], argTypes := #[22] }, 4, "ref.go:65", #[⟨16, .data⟩, ⟨14, .chain⟩, ⟨14, .guard⟩], some (14, true)⟩) rfl (fun K hK => ?_) AllReadyH.nil
  go_simp
  go_at_call 34; refine (CW.out _ (HBW.out _ BW.out)).mono ?_; rintro e x ⟨rfl, hb⟩; replace BW := Go.Lib.hid (BW.out.trans (hb.mono BW.out.size)); clear hb
  (try go_wp2_with fail)
  refine hK.out _ _ (HKC.out _ BW.out) (fun hHeld3 => ?_)
  clear hK K
  try simp only [Act.put, List.setIfInBounds_toArray, List.set_cons_zero, List.set_cons_succ]
  refine wpAnyH_take (i := 18) (oi := ⟨some 21, .pick (.tmp 17) (.tmp 20) (.const (.bool false)), 4, "ref.go:65", #[⟨14, .data⟩, ⟨17, .data⟩], none⟩) (v := ?_) rfl (by kernel_rfl) (by kernel_rfl) (by kernel_rfl) (fun _ _ _ h => h) (Or.inl ⟨by rfl, ?_⟩) hHeld3 ?_
  rotate_left
  · (intro w hSw; (try dsimp only at hSw); go_simp)
    try with_reducible rfl
  try simp only [Act.put, List.setIfInBounds_toArray, List.set_cons_zero, List.set_cons_succ]
  refine wpAnyH_take (i := 19) (oi := ⟨some 22, .move (.tmp 21), 4, "ref.go:65", #[⟨18, .data⟩, ⟨17, .chain⟩], none⟩) (v := ?_) rfl (by kernel_rfl) (by kernel_rfl) (by kernel_rfl) (fun _ _ _ h => h) (Or.inl ⟨by rfl, ?_⟩) hHeld3 ?_
  rotate_left
  · (intro w hSw; (try dsimp only at hSw); go_simp)
    try with_reducible rfl
  try simp only [Act.put, List.setIfInBounds_toArray, List.set_cons_zero, List.set_cons_succ]
  refine wpAnyH_take (i := 20) (oi := ⟨some 23, .load 26 (.tmp 1), 26, "ref.go:65", #[⟨19, .guard⟩], some (19, true)⟩) (v := ?_) rfl (by kernel_rfl) (by kernel_rfl) (by kernel_rfl) (fun _ _ _ h => h) (Or.inl ⟨by rfl, ?_⟩) hHeld3 ?_
  rotate_left
  · (intro w hSw; (try dsimp only at hSw); go_simp)
    try with_reducible rfl
  try simp only [Act.put, List.setIfInBounds_toArray, List.set_cons_zero, List.set_cons_succ]
  refine wpAnyH_ready (rs := [21]) (by kernel_rfl) (by simp) ?_
  refine AllReadyH.cons (o := ⟨some 24, .call { callee := .value (.func 17), args := #[.tmp 23, .const (.int .i64 3)], argTypes := #[26, 3] }, 4, "ref.go:65", #[⟨20, .data⟩, ⟨19, .chain⟩, ⟨19, .guard⟩], some (19, true)⟩) rfl (fun K hK => ?_) AllReadyH.nil
  go_simp
  go_at_call 17; refine (CH.out _).mono ?_; rintro e x ⟨rfl, hb⟩; replace BW := Go.Lib.hid (BW.out.trans (hb.mono BW.out.size)); clear hb
  (try go_wp2_with fail)
  refine hK.out _ _ (HKC.out _ BW.out) (fun hHeld4 => ?_)
  clear hK K
  try simp only [Act.put, List.setIfInBounds_toArray, List.set_cons_zero, List.set_cons_succ]
  refine wpAnyH_take (i := 22) (oi := ⟨some 25, .unOp .not 4 (.tmp 24), 4, "ref.go:65", #[⟨21, .data⟩, ⟨19, .guard⟩], some (19, true)⟩) (v := ?_) rfl (by kernel_rfl) (by kernel_rfl) (by kernel_rfl) (fun _ _ _ h => h) (Or.inl ⟨by rfl, ?_⟩) hHeld4 ?_
  rotate_left
  · (intro w hSw; (try dsimp only at hSw); go_simp)
    try with_reducible rfl
  try simp only [Act.put, List.setIfInBounds_toArray, List.set_cons_zero, List.set_cons_succ]
  refine wpAnyH_take (i := 23) (oi := ⟨some 26, .move (.tmp 25), 4, "ref.go:65", #[⟨22, .data⟩, ⟨21, .chain⟩, ⟨19, .guard⟩], some (19, true)⟩) (v := ?_) rfl (by kernel_rfl) (by kernel_rfl) (by kernel_rfl) (fun _ _ _ h => h) (Or.inl ⟨by rfl, ?_⟩) hHeld4 ?_
  rotate_left
  · (intro w hSw; (try dsimp only at hSw); go_simp)
    try with_reducible rfl
  try simp only [Act.put, List.setIfInBounds_toArray, List.set_cons_zero, List.set_cons_succ]
  refine wpAnyH_take (i := 24) (oi := ⟨some 27, .fieldAddr 26 (.tmp 1) 3, 0, "ref.go:65", #[⟨23, .guard⟩], some (23, false)⟩) (v := ?_) rfl (by kernel_rfl) (by kernel_rfl) (by kernel_rfl) (fun _ _ _ h => h) (Or.inl ⟨by rfl, ?_⟩) hHeld4 ?_
  rotate_left
  · (intro w hSw; (try dsimp only at hSw); go_simp)
    try with_reducible rfl
  try simp only [Act.put, List.setIfInBounds_toArray, List.set_cons_zero, List.set_cons_succ]
  refine wpAnyH_take (i := 25) (oi := ⟨some 28, .load 23 (.tmp 27), 23, "ref.go:65", #[⟨24, .data⟩, ⟨23, .guard⟩], some (23, false)⟩) (v := ?_) rfl (by kernel_rfl) (by kernel_rfl) (by kernel_rfl) (fun _ _ _ h => h) (Or.inl ⟨by rfl, ?_⟩) hHeld4 ?_
  rotate_left
  · (intro w hSw; (try dsimp only at hSw); go_simp)
    try with_reducible rfl
  try simp only [Act.put, List.setIfInBounds_toArray, List.set_cons_zero, List.set_cons_succ]
  refine wpAnyH_ready (rs := [26]) (by kernel_rfl) (by simp) ?_
  refine AllReadyH.cons (o := ⟨some 29, .call { callee := .value (.func 16), args := #[.tmp 28], argTypes := #[23] }, 4, "ref.go:65", #[⟨25, .data⟩, ⟨23, .chain⟩, ⟨23, .guard⟩], some (23, false)⟩) rfl (fun K hK => ?_) AllReadyH.nil
  go_simp
  go_at_call 16; refine (CP.out _).mono ?_; rintro e x ⟨rfl, hb⟩; replace BW := Go.Lib.hid (BW.out.trans (hb.mono BW.out.size)); clear hb
  (try go_wp2_with fail)
  refine hK.out _ _ (HKC.out _ BW.out) (fun hHeld5 => ?_)
  clear hK K
  try simp only [Act.put, List.setIfInBounds_toArray, List.set_cons_zero, List.set_cons_succ]
  refine wpAnyH_take (i := 27) (oi := ⟨some 30, .pick (.tmp 26) (.const (.bool true)) (.tmp 29), 4, "ref.go:65", #[⟨23, .data⟩, ⟨26, .data⟩, ⟨19, .guard⟩], some (19, true)⟩) (v := ?_) rfl (by kernel_rfl) (by kernel_rfl) (by kernel_rfl) (fun _ _ _ h => h) (Or.inl ⟨by rfl, ?_⟩) hHeld5 ?_
  rotate_left
  · (intro w hSw; (try dsimp only at hSw); go_simp)
    try with_reducible rfl
  try simp only [Act.put, List.setIfInBounds_toArray, List.set_cons_zero, List.set_cons_succ]
  refine wpAnyH_take (i := 28) (oi := ⟨some 31, .pick (.tmp 22) (.tmp 30) (.const (.bool false)), 4, "ref.go:65", #[⟨19, .data⟩, ⟨27, .data⟩], none⟩) (v := ?_) rfl (by kernel_rfl) (by kernel_rfl) (by kernel_rfl) (fun _ _ _ h => h) (Or.inl ⟨by rfl, ?_⟩) hHeld5 ?_
  rotate_left
  · (intro w hSw; (try dsimp only at hSw); go_simp)
    try with_reducible rfl
  try simp only [Act.put, List.setIfInBounds_toArray, List.set_cons_zero, List.set_cons_succ]
  refine wpAnyH_take (i := 29) (oi := ⟨some 32, .move (.tmp 31), 4, "ref.go:65", #[⟨28, .data⟩, ⟨26, .chain⟩], none⟩) (v := ?_) rfl (by kernel_rfl) (by kernel_rfl) (by kernel_rfl) (fun _ _ _ h => h) (Or.inl ⟨by rfl, ?_⟩) hHeld5 ?_
  rotate_left
  · (intro w hSw; (try dsimp only at hSw); go_simp)
    try with_reducible rfl
  try simp only [Act.put, List.setIfInBounds_toArray, List.set_cons_zero, List.set_cons_succ]
  refine wpAnyH_take (i := 30) (oi := ⟨some 33, .fieldAddr 26 (.tmp 1) 8, 0, "ref.go:65", #[⟨29, .guard⟩], some (29, true)⟩) (v := undef) rfl (by kernel_rfl) (by kernel_rfl) (by kernel_rfl) (fun _ _ _ h => h) (Or.inr ⟨by rfl, rfl⟩) hHeld5 ?_
  try simp only [Act.put, List.setIfInBounds_toArray, List.set_cons_zero, List.set_cons_succ]
  refine wpAnyH_take (i := 31) (oi := ⟨some 34, .load 24 (.tmp 33), 24, "ref.go:65", #[⟨30, .data⟩, ⟨29, .guard⟩], some (29, true)⟩) (v := undef) rfl (by kernel_rfl) (by kernel_rfl) (by kernel_rfl) (fun _ _ _ h => h) (Or.inr ⟨by rfl, rfl⟩) hHeld5 ?_
  try simp only [Act.put, List.setIfInBounds_toArray, List.set_cons_zero, List.set_cons_succ]
  refine wpAnyH_take (i := 32) (oi := ⟨some 35, .call { callee := .builtin .len, args := #[.tmp 34], argTypes := #[24] }, 3, "ref.go:65", #[⟨31, .data⟩, ⟨29, .guard⟩], some (29, true)⟩) (v := undef) rfl (by kernel_rfl) (by kernel_rfl) (by kernel_rfl) (fun _ _ _ h => h) (Or.inr ⟨by rfl, rfl⟩) hHeld5 ?_
  try simp only [Act.put, List.setIfInBounds_toArray, List.set_cons_zero, List.set_cons_succ]
  refine wpAnyH_take (i := 33) (oi := ⟨some 36, .binOp .leq 3 (.tmp 35) (.const (.int .i64 255)) 3, 4, "ref.go:65", #[⟨32, .data⟩, ⟨29, .guard⟩], some (29, true)⟩) (v := undef) rfl (by kernel_rfl) (by kernel_rfl) (by kernel_rfl) (fun _ _ _ h => h) (Or.inr ⟨by rfl, rfl⟩) hHeld5 ?_
  try simp only [Act.put, List.setIfInBounds_toArray, List.set_cons_zero, List.set_cons_succ]
  refine wpAnyH_take (i := 34) (oi := ⟨some 37, .pick (.tmp 32) (.tmp 36) (.const (.bool false)), 4, "ref.go:65", #[⟨29, .data⟩, ⟨33, .data⟩], none⟩) (v := ?_) rfl (by kernel_rfl) (by kernel_rfl) (by kernel_rfl) (fun _ _ _ h => h) (Or.inl ⟨by rfl, ?_⟩) hHeld5 ?_
  rotate_left
  · (intro w hSw; (try dsimp only at hSw); go_simp)
    try with_reducible rfl
  try simp only [Act.put, List.setIfInBounds_toArray, List.set_cons_zero, List.set_cons_succ]
  refine wpAnyH_take (i := 35) (oi := ⟨some 2, .assign (.tmp 37), 4, "ref.go:65", #[⟨34, .data⟩, ⟨29, .chain⟩, ⟨0, .phase⟩, ⟨1, .phase⟩, ⟨2, .phase⟩, ⟨3, .phase⟩, ⟨4, .phase⟩, ⟨5, .phase⟩, ⟨6, .phase⟩, ⟨7, .phase⟩, ⟨8, .phase⟩, ⟨9, .phase⟩, ⟨10, .phase⟩, ⟨11, .phase⟩, ⟨12, .phase⟩, ⟨13, .phase⟩, ⟨14, .phase⟩, ⟨15, .phase⟩, ⟨16, .phase⟩, ⟨17, .phase⟩, ⟨18, .phase⟩, ⟨19, .phase⟩, ⟨20, .phase⟩, ⟨21, .phase⟩, ⟨22, .phase⟩, ⟨23, .phase⟩, ⟨24, .phase⟩, ⟨25, .phase⟩, ⟨26, .phase⟩, ⟨27, .phase⟩, ⟨28, .phase⟩, ⟨29, .phase⟩, ⟨30, .phase⟩, ⟨31, .phase⟩, ⟨32, .phase⟩, ⟨33, .phase⟩, ⟨34, .phase⟩], none⟩) (v := ?_) rfl (by kernel_rfl) (by kernel_rfl) (by kernel_rfl) (fun _ _ _ h => h) (Or.inl ⟨by rfl, ?_⟩) hHeld5 ?_
  rotate_left
  · (intro w hSw; (try dsimp only at hSw); go_simp)
    try with_reducible rfl
  try simp only [Act.put, List.setIfInBounds_toArray, List.set_cons_zero, List.set_cons_succ]
  refine wpAnyH_done (by kernel_rfl) ?_ _
  refine NoPanic.normal ?_
  go_wp2
  go_ret
  exact ⟨rfl, HBW.out _ BW.out⟩
set_option maxRecDepth 100000 in
set_option maxHeartbeats 8000000 in
theorem good_y (h o : Int) (vp : Value) (Ac : Option Addr) (cl cc : Nat) (hp md pr ag ai : Nat) (w : World) (An : At) (q : Bool)
    (CN : Hid (∀ W, Below w.heap.size w W → Calls Tryd.prog 11 #[.agg #[.int .i64 h, .int .i64 o, vp, .int .u32 hp, .int .u32 md, .int .u32 pr, .int .u32 ag, .int .u32 ai, .slice Ac cl cc]] W (fun e w' => ∃ v, e = .returned v ∧ Attrs w' v An ∧ Below W.heap.size W w')))
    (CM : Hid (∀ v W, Attrs W v An → Below w.heap.size w W → Calls Tryd.prog 9 #[v, .agg #[.int .i64 h, .int .i64 o, vp, .int .u32 hp, .int .u32 md, .int .u32 pr, .int .u32 ag, .int .u32 ai, .slice Ac cl cc]] W (Tells (.bool true) W)))
    (CW : Hid (∀ W, Below w.heap.size w W → Calls Tryd.prog 34 #[vp] W (Tells (.bool true) W)))
    (CH : Hid (∀ W, Calls Tryd.prog 17 #[.agg #[.int .i64 h, .int .i64 o, vp, .int .u32 hp, .int .u32 md, .int .u32 pr, .int .u32 ag, .int .u32 ai, .slice Ac cl cc], .int .i64 3] W (Tells (.bool true) W)))
    (CP : Hid (∀ W, Calls Tryd.prog 16 #[.int .u32 hp] W (Tells (.bool true) W)))
    (z0 : 0 ≤ o) (z1 : o ≤ 2) (z2 : decide ((cl : Int) ≤ 255) = q) : Calls Tryd.prog 8 #[.agg #[.int .i64 h, .int .i64 o, vp, .int .u32 hp, .int .u32 md, .int .u32 pr, .int .u32 ag, .int .u32 ai, .slice Ac cl cc]] w (Tells (.bool q) w) := by
  have HB := Go.Lib.hid ((Below.refl _ w).alloc (Nat.le_refl _) (.cells #[.int .i64 h, .int .i64 o, vp, .int .u32 hp, .int .u32 md, .int .u32 pr, .int .u32 ag, .int .u32 ai, .slice Ac cl cc] 26))
  have HC := Go.Lib.hid (Box9.new w 26 (.int .i64 h) (.int .i64 o) (vp) (.int .u32 hp) (.int .u32 md) (.int .u32 pr) (.int .u32 ag) (.int .u32 ai) (.slice Ac cl cc))
  go_enter Tryd.func8, Tryd.ntmps8
  go_wp2
  have HKC := Go.Lib.hid (fun (W : World) (h : Below (w.alloc (.cells #[.int .i64 h, .int .i64 o, vp, .int .u32 hp, .int .u32 md, .int .u32 pr, .int .u32 ag, .int .u32 ai, .slice Ac cl cc] 26)).heap.size (w.alloc (.cells #[.int .i64 h, .int .i64 o, vp, .int .u32 hp, .int .u32 md, .int .u32 pr, .int .u32 ag, .int .u32 ai, .slice Ac cl cc] 26)) W) => (HC.out.keep h).cells)
  have HBW := Go.Lib.hid (fun (W : World) (h : Below (w.alloc (.cells #[.int .i64 h, .int .i64 o, vp, .int .u32 hp, .int .u32 md, .int .u32 pr, .int .u32 ag, .int .u32 ai, .slice Ac cl cc] 26)).heap.size (w.alloc (.cells #[.int .i64 h, .int .i64 o, vp, .int .u32 hp, .int .u32 md, .int .u32 pr, .int .u32 ag, .int .u32 ai, .slice Ac cl cc] 26)) W) => HB.out.trans (h.mono HB.out.size))
  have BW := Go.Lib.hid ((Below.refl (w.alloc (.cells #[.int .i64 h, .int .i64 o, vp, .int .u32 hp, .int .u32 md, .int .u32 pr, .int .u32 ag, .int .u32 ai, .slice Ac cl cc] 26)).heap.size (w.alloc (.cells #[.int .i64 h, .int .i64 o, vp, .int .u32 hp, .int .u32 md, .int .u32 pr, .int .u32 ag, .int .u32 ai, .slice Ac cl cc] 26))).drew)
  refine wp_region_noPanic ?_
  refine wp_region_held_drew (S := (fun w' => w'.cell? ⟨w.heap.size, 0, none⟩ = some (.int .i64 h) ∧ w'.cell? ⟨w.heap.size, 1, none⟩ = some (.int .i64 o) ∧ w'.cell? ⟨w.heap.size, 2, none⟩ = some (vp) ∧ w'.cell? ⟨w.heap.size, 3, none⟩ = some (.int .u32 hp) ∧ w'.cell? ⟨w.heap.size, 4, none⟩ = some (.int .u32 md) ∧ w'.cell? ⟨w.heap.size, 5, none⟩ = some (.int .u32 pr) ∧ w'.cell? ⟨w.heap.size, 6, none⟩ = some (.int .u32 ag) ∧ w'.cell? ⟨w.heap.size, 7, none⟩ = some (.int .u32 ai) ∧ w'.cell? ⟨w.heap.size, 8, none⟩ = some (.slice Ac cl cc))) (by kernel_rfl) (HKC.out _ BW.out) (fun hHeld => ?_)
  refine wpAnyH_take (i := 0) (oi := ⟨some 3, .load 26 (.tmp 1), 26, "ref.go:65", #[], none⟩) (v := ?_) rfl (by kernel_rfl) (by kernel_rfl) (by kernel_rfl) (fun _ _ _ h => h) (Or.inl ⟨by rfl, ?_⟩) hHeld ?_
  rotate_left
  · (intro w hSw; (try dsimp only at hSw); go_simp)
    try with_reducible rfl
  try simp only [Act.put, List.setIfInBounds_toArray, List.set_cons_zero, List.set_cons_succ]
  refine wpAnyH_take (i := 2) (oi := ⟨some 5, .load 26 (.tmp 1), 26, "ref.go:65", #[], none⟩) (v := ?_) rfl (by kernel_rfl) (by kernel_rfl) (by kernel_rfl) (fun _ _ _ h => h) (Or.inl ⟨by rfl, ?_⟩) hHeld ?_
  rotate_left
  · (intro w hSw; (try dsimp only at hSw); go_simp)
    try with_reducible rfl
  try simp only [Act.put, List.setIfInBounds_toArray, List.set_cons_zero, List.set_cons_succ]
  refine wpAnyH_ready (rs := [1]) (by kernel_rfl) (by simp) ?_
  refine AllReadyH.cons (o := ⟨some 4, .call { callee := .value (.func 11), args := #[.tmp 3], argTypes := #[26] }, 26, "ref.go:65", #[⟨0, .data⟩], none⟩) rfl (fun K hK => ?_) AllReadyH.nil
  go_simp
  go_at_call 11; refine (CN.out _ (HBW.out _ BW.out)).mono ?_; rintro e x ⟨v1, rfl, ha, hb⟩; have U := Go.Lib.hid ha; clear ha; replace BW := Go.Lib.hid (BW.out.trans (hb.mono BW.out.size)); clear hb
  (try go_wp2_with fail)
  refine hK.out _ _ (HKC.out _ BW.out) (fun hHeld1 => ?_)
  clear hK K
  try simp only [Act.put, List.setIfInBounds_toArray, List.set_cons_zero, List.set_cons_succ]
  refine wpAnyH_ready (rs := [3]) (by kernel_rfl) (by simp) ?_
  refine AllReadyH.cons (o := ⟨some 6, .call { callee := .value (.func 9), args := #[.tmp 4, .tmp 5], argTypes := #[26, 26] }, 4, "ref.go:65", #[⟨1, .data⟩, ⟨2, .data⟩, ⟨1, .chain⟩], none⟩) rfl (fun K hK => ?_) AllReadyH.nil
  go_simp
  go_at_call 9; refine (CM.out _ _ U.out (HBW.out _ BW.out)).mono ?_; rintro e x ⟨rfl, hb⟩; replace BW := Go.Lib.hid (BW.out.trans (hb.mono BW.out.size)); clear hb
  (try go_wp2_with fail)
  refine hK.out _ _ (HKC.out _ BW.out) (fun hHeld2 => ?_)
  clear hK K
  try simp only [Act.put, List.setIfInBounds_toArray, List.set_cons_zero, List.set_cons_succ]
  refine wpAnyH_take (i := 4) (oi := ⟨some 7, .move (.tmp 6), 4, "ref.go:65", #[⟨3, .data⟩, ⟨3, .chain⟩], none⟩) (v := ?_) rfl (by kernel_rfl) (by kernel_rfl) (by kernel_rfl) (fun _ _ _ h => h) (Or.inl ⟨by rfl, ?_⟩) hHeld2 ?_
  rotate_left
  · (intro w hSw; (try dsimp only at hSw); go_simp)
    try with_reducible rfl
  try simp only [Act.put, List.setIfInBounds_toArray, List.set_cons_zero, List.set_cons_succ]
  refine wpAnyH_take (i := 5) (oi := ⟨some 8, .fieldAddr 26 (.tmp 1) 1, 0, "ref.go:65", #[⟨4, .guard⟩], some (4, true)⟩) (v := ?_) rfl (by kernel_rfl) (by kernel_rfl) (by kernel_rfl) (fun _ _ _ h => h) (Or.inl ⟨by rfl, ?_⟩) hHeld2 ?_
  rotate_left
  · (intro w hSw; (try dsimp only at hSw); go_simp)
    try with_reducible rfl
  try simp only [Act.put, List.setIfInBounds_toArray, List.set_cons_zero, List.set_cons_succ]
  refine wpAnyH_take (i := 6) (oi := ⟨some 9, .load 3 (.tmp 8), 3, "ref.go:65", #[⟨5, .data⟩, ⟨4, .guard⟩], some (4, true)⟩) (v := ?_) rfl (by kernel_rfl) (by kernel_rfl) (by kernel_rfl) (fun _ _ _ h => h) (Or.inl ⟨by rfl, ?_⟩) hHeld2 ?_
  rotate_left
  · (intro w hSw; (try dsimp only at hSw); go_simp)
    try with_reducible rfl
  try simp only [Act.put, List.setIfInBounds_toArray, List.set_cons_zero, List.set_cons_succ]
  refine wpAnyH_take (i := 7) (oi := ⟨some 10, .binOp .geq 3 (.tmp 9) (.const (.int .i64 0)) 3, 4, "ref.go:65", #[⟨6, .data⟩, ⟨4, .guard⟩], some (4, true)⟩) (v := ?_) rfl (by kernel_rfl) (by kernel_rfl) (by kernel_rfl) (fun _ _ _ h => h) (Or.inl ⟨by rfl, ?_⟩) hHeld2 ?_
  rotate_left
  · (intro w hSw; (try dsimp only at hSw); go_simp)
    try with_reducible rfl
  try simp only [Act.put, List.setIfInBounds_toArray, List.set_cons_zero, List.set_cons_succ]
  refine wpAnyH_take (i := 8) (oi := ⟨some 11, .pick (.tmp 7) (.tmp 10) (.const (.bool false)), 4, "ref.go:65", #[⟨4, .data⟩, ⟨7, .data⟩], none⟩) (v := ?_) rfl (by kernel_rfl) (by kernel_rfl) (by kernel_rfl) (fun _ _ _ h => h) (Or.inl ⟨by rfl, ?_⟩) hHeld2 ?_
  rotate_left
  · (intro w hSw; (try dsimp only at hSw); go_simp)
    try with_reducible rfl
  try simp only [Act.put, List.setIfInBounds_toArray, List.set_cons_zero, List.set_cons_succ]
  refine wpAnyH_take (i := 9) (oi := ⟨some 12, .move (.tmp 11), 4, "ref.go:65", #[⟨8, .data⟩, ⟨4, .chain⟩], none⟩) (v := ?_) rfl (by kernel_rfl) (by kernel_rfl) (by kernel_rfl) (fun _ _ _ h => h) (Or.inl ⟨by rfl, ?_⟩) hHeld2 ?_
  rotate_left
  · (intro w hSw; (try dsimp only at hSw); go_simp)
    try with_reducible rfl
  try simp only [Act.put, List.setIfInBounds_toArray, List.set_cons_zero, List.set_cons_succ]
  refine wpAnyH_take (i := 10) (oi := ⟨some 13, .fieldAddr 26 (.tmp 1) 1, 0, "ref.go:65", #[⟨9, .guard⟩], some (9, true)⟩) (v := ?_) rfl (by kernel_rfl) (by kernel_rfl) (by kernel_rfl) (fun _ _ _ h => h) (Or.inl ⟨by rfl, ?_⟩) hHeld2 ?_
  rotate_left
  · (intro w hSw; (try dsimp only at hSw); go_simp)
    try with_reducible rfl
  try simp only [Act.put, List.setIfInBounds_toArray, List.set_cons_zero, List.set_cons_succ]
  refine wpAnyH_take (i := 11) (oi := ⟨some 14, .load 3 (.tmp 13), 3, "ref.go:65", #[⟨10, .data⟩, ⟨9, .guard⟩], some (9, true)⟩) (v := ?_) rfl (by kernel_rfl) (by kernel_rfl) (by kernel_rfl) (fun _ _ _ h => h) (Or.inl ⟨by rfl, ?_⟩) hHeld2 ?_
  rotate_left
  · (intro w hSw; (try dsimp only at hSw); go_simp)
    try with_reducible rfl
  try simp only [Act.put, List.setIfInBounds_toArray, List.set_cons_zero, List.set_cons_succ]
  refine wpAnyH_take (i := 12) (oi := ⟨some 15, .binOp .leq 3 (.tmp 14) (.const (.int .i64 2)) 3, 4, "ref.go:65", #[⟨11, .data⟩, ⟨9, .guard⟩], some (9, true)⟩) (v := ?_) rfl (by kernel_rfl) (by kernel_rfl) (by kernel_rfl) (fun _ _ _ h => h) (Or.inl ⟨by rfl, ?_⟩) hHeld2 ?_
  rotate_left
  · (intro w hSw; (try dsimp only at hSw); go_simp)
    try with_reducible rfl
  try simp only [Act.put, List.setIfInBounds_toArray, List.set_cons_zero, List.set_cons_succ]
  refine wpAnyH_take (i := 13) (oi := ⟨some 16, .pick (.tmp 12) (.tmp 15) (.const (.bool false)), 4, "ref.go:65", #[⟨9, .data⟩, ⟨12, .data⟩], none⟩) (v := ?_) rfl (by kernel_rfl) (by kernel_rfl) (by kernel_rfl) (fun _ _ _ h => h) (Or.inl ⟨by rfl, ?_⟩) hHeld2 ?_
  rotate_left
  · (intro w hSw; (try dsimp only at hSw); go_simp)
    try with_reducible rfl
  try simp only [Act.put, List.setIfInBounds_toArray, List.set_cons_zero, List.set_cons_succ]
  refine wpAnyH_take (i := 14) (oi := ⟨some 17, .move (.tmp 16), 4, "ref.go:65", #[⟨13, .data⟩, ⟨9, .chain⟩], none⟩) (v := ?_) rfl (by kernel_rfl) (by kernel_rfl) (by kernel_rfl) (fun _ _ _ h => h) (Or.inl ⟨by rfl, ?_⟩) hHeld2 ?_
  rotate_left
  · (intro w hSw; (try dsimp only at hSw); go_simp)
    try with_reducible rfl
  try simp only [Act.put, List.setIfInBounds_toArray, List.set_cons_zero, List.set_cons_succ]
  refine wpAnyH_take (i := 15) (oi := ⟨some 18, .fieldAddr 26 (.tmp 1) 2, 0, "ref.go:65", #[⟨14, .guard⟩], some (14, true)⟩) (v := ?_) rfl (by kernel_rfl) (by kernel_rfl) (by kernel_rfl) (fun _ _ _ h => h) (Or.inl ⟨by rfl, ?_⟩) hHeld2 ?_
  rotate_left
  · (intro w hSw; (try dsimp only at hSw); go_simp)
    try with_reducible rfl
  try simp only [Act.put, List.setIfInBounds_toArray, List.set_cons_zero, List.set_cons_succ]
  refine wpAnyH_take (i := 16) (oi := ⟨some 19, .load 22 (.tmp 18), 22, "ref.go:65", #[⟨15, .data⟩, ⟨14, .guard⟩], some (14, true)⟩) (v := ?_) rfl (by kernel_rfl) (by kernel_rfl) (by kernel_rfl) (fun _ _ _ h => h) (Or.inl ⟨by rfl, ?_⟩) hHeld2 ?_
  rotate_left
  · (intro w hSw; (try dsimp only at hSw); go_simp)
    try with_reducible rfl
  try simp only [Act.put, List.setIfInBounds_toArray, List.set_cons_zero, List.set_cons_succ]
  refine wpAnyH_ready (rs := [17]) (by kernel_rfl) (by simp) ?_
  refine AllReadyH.cons (o := ⟨some 20, .call { callee := .value (.func 34), args := #[.tmp 19], argTypes := #[22] }, 4, "ref.go:65", #[⟨16, .data⟩, ⟨14, .chain⟩, ⟨14, .guard⟩], some (14, true)⟩) rfl (fun K hK => ?_) AllReadyH.nil
  go_simp
  go_at_call 34; refine (CW.out _ (HBW.out _ BW.out)).mono ?_; rintro e x ⟨rfl, hb⟩; replace BW := Go.Lib.hid (BW.out.trans (hb.mono BW.out.size)); clear hb
  (try go_wp2_with fail)
  refine hK.out _ _ (HKC.out _ BW.out) (fun hHeld3 => ?_)
  clear hK K
  try simp only [Act.put, List.setIfInBounds_toArray, List.set_cons_zero, List.set_cons_succ]
  refine wpAnyH_take (i := 18) (oi := ⟨some 21, .pick (.tmp 17) (.tmp 20) (.const (.bool false)), 4, "ref.go:65", #[⟨14, .data⟩, ⟨17, .data⟩], none⟩) (v := ?_) rfl (by kernel_rfl) (by kernel_rfl) (by kernel_rfl) (fun _ _ _ h => h) (Or.inl ⟨by rfl, ?_⟩) hHeld3 ?_
  rotate_left
  · (intro w hSw; (try dsimp only at hSw); go_simp)
    try with_reducible rfl
  try simp only [Act.put, List.setIfInBounds_toArray, List.set_cons_zero, List.set_cons_succ]
  refine wpAnyH_take (i := 19) (oi := ⟨some 22, .move (.tmp 21), 4, "ref.go:65", #[⟨18, .data⟩, ⟨17, .chain⟩], none⟩) (v := ?_) rfl (by kernel_rfl) (by kernel_rfl) (by kernel_rfl) (fun _ _ _ h => h) (Or.inl ⟨by rfl, ?_⟩) hHeld3 ?_
  rotate_left
  · (intro w hSw; (try dsimp only at hSw); go_simp)
    try with_reducible rfl
  try simp only [Act.put, List.setIfInBounds_toArray, List.set_cons_zero, List.set_cons_succ]
  refine wpAnyH_take (i := 20) (oi := ⟨some 23, .load 26 (.tmp 1), 26, "ref.go:65", #[⟨19, .guard⟩], some (19, true)⟩) (v := ?_) rfl (by kernel_rfl) (by kernel_rfl) (by kernel_rfl) (fun _ _ _ h => h) (Or.inl ⟨by rfl, ?_⟩) hHeld3 ?_
  rotate_left
  · (intro w hSw; (try dsimp only at hSw); go_simp)
    try with_reducible rfl
  try simp only [Act.put, List.setIfInBounds_toArray, List.set_cons_zero, List.set_cons_succ]
  refine wpAnyH_ready (rs := [21]) (by kernel_rfl) (by simp) ?_
  refine AllReadyH.cons (o := ⟨some 24, .call { callee := .value (.func 17), args := #[.tmp 23, .const (.int .i64 3)], argTypes := #[26, 3] }, 4, "ref.go:65", #[⟨20, .data⟩, ⟨19, .chain⟩, ⟨19, .guard⟩], some (19, true)⟩) rfl (fun K hK => ?_) AllReadyH.nil
  go_simp
  go_at_call 17; refine (CH.out _).mono ?_; rintro e x ⟨rfl, hb⟩; replace BW := Go.Lib.hid (BW.out.trans (hb.mono BW.out.size)); clear hb
  (try go_wp2_with fail)
  refine hK.out _ _ (HKC.out _ BW.out) (fun hHeld4 => ?_)
  clear hK K
  try simp only [Act.put, List.setIfInBounds_toArray, List.set_cons_zero, List.set_cons_succ]
  refine wpAnyH_take (i := 22) (oi := ⟨some 25, .unOp .not 4 (.tmp 24), 4, "ref.go:65", #[⟨21, .data⟩, ⟨19, .guard⟩], some (19, true)⟩) (v := ?_) rfl (by kernel_rfl) (by kernel_rfl) (by kernel_rfl) (fun _ _ _ h => h) (Or.inl ⟨by rfl, ?_⟩) hHeld4 ?_
  rotate_left
  · (intro w hSw; (try dsimp only at hSw); go_simp)
    try with_reducible rfl
  try simp only [Act.put, List.setIfInBounds_toArray, List.set_cons_zero, List.set_cons_succ]
  refine wpAnyH_take (i := 23) (oi := ⟨some 26, .move (.tmp 25), 4, "ref.go:65", #[⟨22, .data⟩, ⟨21, .chain⟩, ⟨19, .guard⟩], some (19, true)⟩) (v := ?_) rfl (by kernel_rfl) (by kernel_rfl) (by kernel_rfl) (fun _ _ _ h => h) (Or.inl ⟨by rfl, ?_⟩) hHeld4 ?_
  rotate_left
  · (intro w hSw; (try dsimp only at hSw); go_simp)
    try with_reducible rfl
  try simp only [Act.put, List.setIfInBounds_toArray, List.set_cons_zero, List.set_cons_succ]
  refine wpAnyH_take (i := 24) (oi := ⟨some 27, .fieldAddr 26 (.tmp 1) 3, 0, "ref.go:65", #[⟨23, .guard⟩], some (23, false)⟩) (v := ?_) rfl (by kernel_rfl) (by kernel_rfl) (by kernel_rfl) (fun _ _ _ h => h) (Or.inl ⟨by rfl, ?_⟩) hHeld4 ?_
  rotate_left
  · (intro w hSw; (try dsimp only at hSw); go_simp)
    try with_reducible rfl
  try simp only [Act.put, List.setIfInBounds_toArray, List.set_cons_zero, List.set_cons_succ]
  refine wpAnyH_take (i := 25) (oi := ⟨some 28, .load 23 (.tmp 27), 23, "ref.go:65", #[⟨24, .data⟩, ⟨23, .guard⟩], some (23, false)⟩) (v := ?_) rfl (by kernel_rfl) (by kernel_rfl) (by kernel_rfl) (fun _ _ _ h => h) (Or.inl ⟨by rfl, ?_⟩) hHeld4 ?_
  rotate_left
  · (intro w hSw; (try dsimp only at hSw); go_simp)
    try with_reducible rfl
  try simp only [Act.put, List.setIfInBounds_toArray, List.set_cons_zero, List.set_cons_succ]
  refine wpAnyH_ready (rs := [26]) (by kernel_rfl) (by simp) ?_
  refine AllReadyH.cons (o := ⟨some 29, .call { callee := .value (.func 16), args := #[.tmp 28], argTypes := #[23] }, 4, "ref.go:65", #[⟨25, .data⟩, ⟨23, .chain⟩, ⟨23, .guard⟩], some (23, false)⟩) rfl (fun K hK => ?_) AllReadyH.nil
  go_simp
  go_at_call 16; refine (CP.out _).mono ?_; rintro e x ⟨rfl, hb⟩; replace BW := Go.Lib.hid (BW.out.trans (hb.mono BW.out.size)); clear hb
  (try go_wp2_with fail)
  refine hK.out _ _ (HKC.out _ BW.out) (fun hHeld5 => ?_)
  clear hK K
  try simp only [Act.put, List.setIfInBounds_toArray, List.set_cons_zero, List.set_cons_succ]
  refine wpAnyH_take (i := 27) (oi := ⟨some 30, .pick (.tmp 26) (.const (.bool true)) (.tmp 29), 4, "ref.go:65", #[⟨23, .data⟩, ⟨26, .data⟩, ⟨19, .guard⟩], some (19, true)⟩) (v := ?_) rfl (by kernel_rfl) (by kernel_rfl) (by kernel_rfl) (fun _ _ _ h => h) (Or.inl ⟨by rfl, ?_⟩) hHeld5 ?_
  rotate_left
  · (intro w hSw; (try dsimp only at hSw); go_simp)
    try with_reducible rfl
  try simp only [Act.put, List.setIfInBounds_toArray, List.set_cons_zero, List.set_cons_succ]
  refine wpAnyH_take (i := 28) (oi := ⟨some 31, .pick (.tmp 22) (.tmp 30) (.const (.bool false)), 4, "ref.go:65", #[⟨19, .data⟩, ⟨27, .data⟩], none⟩) (v := ?_) rfl (by kernel_rfl) (by kernel_rfl) (by kernel_rfl) (fun _ _ _ h => h) (Or.inl ⟨by rfl, ?_⟩) hHeld5 ?_
  rotate_left
  · (intro w hSw; (try dsimp only at hSw); go_simp)
    try with_reducible rfl
  try simp only [Act.put, List.setIfInBounds_toArray, List.set_cons_zero, List.set_cons_succ]
  refine wpAnyH_take (i := 29) (oi := ⟨some 32, .move (.tmp 31), 4, "ref.go:65", #[⟨28, .data⟩, ⟨26, .chain⟩], none⟩) (v := ?_) rfl (by kernel_rfl) (by kernel_rfl) (by kernel_rfl) (fun _ _ _ h => h) (Or.inl ⟨by rfl, ?_⟩) hHeld5 ?_
  rotate_left
  · (intro w hSw; (try dsimp only at hSw); go_simp)
    try with_reducible rfl
  try simp only [Act.put, List.setIfInBounds_toArray, List.set_cons_zero, List.set_cons_succ]
  refine wpAnyH_take (i := 30) (oi := ⟨some 33, .fieldAddr 26 (.tmp 1) 8, 0, "ref.go:65", #[⟨29, .guard⟩], some (29, true)⟩) (v := ?_) rfl (by kernel_rfl) (by kernel_rfl) (by kernel_rfl) (fun _ _ _ h => h) (Or.inl ⟨by rfl, ?_⟩) hHeld5 ?_
  rotate_left
  · (intro w hSw; (try dsimp only at hSw); go_simp)
    try with_reducible rfl
  try simp only [Act.put, List.setIfInBounds_toArray, List.set_cons_zero, List.set_cons_succ]
  refine wpAnyH_take (i := 31) (oi := ⟨some 34, .load 24 (.tmp 33), 24, "ref.go:65", #[⟨30, .data⟩, ⟨29, .guard⟩], some (29, true)⟩) (v := ?_) rfl (by kernel_rfl) (by kernel_rfl) (by kernel_rfl) (fun _ _ _ h => h) (Or.inl ⟨by rfl, ?_⟩) hHeld5 ?_
  rotate_left
  · (intro w hSw; (try dsimp only at hSw); go_simp)
    try with_reducible rfl
  try simp only [Act.put, List.setIfInBounds_toArray, List.set_cons_zero, List.set_cons_succ]
  refine wpAnyH_take (i := 32) (oi := ⟨some 35, .call { callee := .builtin .len, args := #[.tmp 34], argTypes := #[24] }, 3, "ref.go:65", #[⟨31, .data⟩, ⟨29, .guard⟩], some (29, true)⟩) (v := ?_) rfl (by kernel_rfl) (by kernel_rfl) (by kernel_rfl) (fun _ _ _ h => h) (Or.inl ⟨by rfl, ?_⟩) hHeld5 ?_
  rotate_left
  · (intro w hSw; (try dsimp only at hSw); go_simp)
    try with_reducible rfl
  try simp only [Act.put, List.setIfInBounds_toArray, List.set_cons_zero, List.set_cons_succ]
  refine wpAnyH_take (i := 33) (oi := ⟨some 36, .binOp .leq 3 (.tmp 35) (.const (.int .i64 255)) 3, 4, "ref.go:65", #[⟨32, .data⟩, ⟨29, .guard⟩], some (29, true)⟩) (v := ?_) rfl (by kernel_rfl) (by kernel_rfl) (by kernel_rfl) (fun _ _ _ h => h) (Or.inl ⟨by rfl, ?_⟩) hHeld5 ?_
  rotate_left
  · (intro w hSw; (try dsimp only at hSw); go_simp)
    try with_reducible rfl
  try simp only [Act.put, List.setIfInBounds_toArray, List.set_cons_zero, List.set_cons_succ]
  refine wpAnyH_take (i := 34) (oi := ⟨some 37, .pick (.tmp 32) (.tmp 36) (.const (.bool false)), 4, "ref.go:65", #[⟨29, .data⟩, ⟨33, .data⟩], none⟩) (v := ?_) rfl (by kernel_rfl) (by kernel_rfl) (by kernel_rfl) (fun _ _ _ h => h) (Or.inl ⟨by rfl, ?_⟩) hHeld5 ?_
  rotate_left
  · (intro w hSw; (try dsimp only at hSw); go_simp)
    try with_reducible rfl
  try simp only [Act.put, List.setIfInBounds_toArray, List.set_cons_zero, List.set_cons_succ]
  refine wpAnyH_take (i := 35) (oi := ⟨some 2, .assign (.tmp 37), 4, "ref.go:65", #[⟨34, .data⟩, ⟨29, .chain⟩, ⟨0, .phase⟩, ⟨1, .phase⟩, ⟨2, .phase⟩, ⟨3, .phase⟩, ⟨4, .phase⟩, ⟨5, .phase⟩, ⟨6, .phase⟩, ⟨7, .phase⟩, ⟨8, .phase⟩, ⟨9, .phase⟩, ⟨10, .phase⟩, ⟨11, .phase⟩, ⟨12, .phase⟩, ⟨13, .phase⟩, ⟨14, .phase⟩, ⟨15, .phase⟩, ⟨16, .phase⟩, ⟨17, .phase⟩, ⟨18, .phase⟩, ⟨19, .phase⟩, ⟨20, .phase⟩, ⟨21, .phase⟩, ⟨22, .phase⟩, ⟨23, .phase⟩, ⟨24, .phase⟩, ⟨25, .phase⟩, ⟨26, .phase⟩, ⟨27, .phase⟩, ⟨28, .phase⟩, ⟨29, .phase⟩, ⟨30, .phase⟩, ⟨31, .phase⟩, ⟨32, .phase⟩, ⟨33, .phase⟩, ⟨34, .phase⟩], none⟩) (v := ?_) rfl (by kernel_rfl) (by kernel_rfl) (by kernel_rfl) (fun _ _ _ h => h) (Or.inl ⟨by rfl, ?_⟩) hHeld5 ?_
  rotate_left
  · (intro w hSw; (try dsimp only at hSw); go_simp)
    try with_reducible rfl
  try simp only [Act.put, List.setIfInBounds_toArray, List.set_cons_zero, List.set_cons_succ]
  refine wpAnyH_done (by kernel_rfl) ?_ _
  refine NoPanic.normal ?_
  go_wp2
  go_ret
  exact ⟨rfl, HBW.out _ BW.out⟩
def goodA (a : At) : Bool := sameA (normA a) a && decide (0 ≤ a.origin) && decide (a.origin ≤ 2) && waysP a.path && (!hasB a.has 3 || hopB a.hop) && decide (a.comms.length ≤ 255)
theorem refGood8 (v : Value) (a : At) (w : World) (hv : Attrs w v a) (hbk : bulk a.path ≤ 50000) (hln : lens a.path ≤ 100000) (hfit : FitS 1000 a.path) (hcl : a.comms.length ≤ 1000) : Calls Tryd.prog 8 #[v] w (Tells (.bool (goodA a)) w) := by
  have hv0 := hv
  obtain ⟨hok, vp, vc, rfl, hP, hC⟩ := hv
  have hhop : a.hop < 4294967296 := hok.2.2.1
  obtain ⟨Ac, cc, rfl, hlc, hcc, -, -⟩ := hC.open_
  have CN := Go.Lib.hid (fun W (hb : Below w.heap.size w W) => (refNorm8 _ a W (hv0.keep hb) hbk hfit hcl).mono fun e w' h => h.attrs)
  have CM := Go.Lib.hid (fun u W (hu : Attrs W u (normA a)) (hb : Below w.heap.size w W) => refSame8 u _ (normA a) a W hu (hv0.keep hb))
  have CW := Go.Lib.hid (fun W (hb : Below w.heap.size w W) => refWays8 vp a.path W (hP.keep hb) hln)
  have CH := Go.Lib.hid (fun W => refHas8 a.has 3 (.int .i64 a.origin) vp (.int .u32 (a.hop : Nat)) (.int .u32 (a.med : Nat)) (.int .u32 (a.pref : Nat)) (.int .u32 (a.aas : Nat)) (.int .u32 (a.aid : Nat)) (.slice Ac a.comms.length cc) W)
  have CP := Go.Lib.hid (fun W => refHop8 a.hop W hhop)
  unfold goodA
  cases h1 : sameA (normA a) a with
  | false => rw [h1] at CM; exact good_n _ _ _ _ _ _ _ _ _ _ _ w _ CN CM
  | true =>
    rw [h1] at CM
    by_cases h2 : 0 ≤ a.origin
    case neg => rw [decide_eq_false h2]; exact good_o _ _ _ _ _ _ _ _ _ _ _ w _ CN CM (decide_eq_false h2)
    rw [decide_eq_true h2]
    by_cases h3 : a.origin ≤ 2
    case neg => rw [decide_eq_false h3]; exact good_p _ _ _ _ _ _ _ _ _ _ _ w _ CN CM h2 (decide_eq_false h3)
    rw [decide_eq_true h3]
    cases h4 : waysP a.path with
    | false => rw [h4] at CW; exact good_w _ _ _ _ _ _ _ _ _ _ _ w _ CN CM CW h2 h3
    | true =>
      rw [h4] at CW
      have hd : decide ((a.comms.length : Int) ≤ 255) = decide (a.comms.length ≤ 255) := by
        by_cases h : a.comms.length ≤ 255
        · rw [decide_eq_true h, decide_eq_true (by omega)]
        · rw [decide_eq_false h, decide_eq_false (by omega)]
      cases h5 : hasB a.has 3 with
      | false => rw [h5] at CH; exact good_h _ _ _ _ _ _ _ _ _ _ _ w _ _ CN CM CW CH h2 h3 hd
      | true =>
        rw [h5] at CH
        cases h6 : hopB a.hop with
        | false => rw [h6] at CP; exact good_x _ _ _ _ _ _ _ _ _ _ _ w _ CN CM CW CH CP h2 h3
        | true => rw [h6] at CP; exact good_y _ _ _ _ _ _ _ _ _ _ _ w _ _ CN CM CW CH CP h2 h3 hd
end Go.Proofs.YtanmepgplpijkaaDoor.Att
