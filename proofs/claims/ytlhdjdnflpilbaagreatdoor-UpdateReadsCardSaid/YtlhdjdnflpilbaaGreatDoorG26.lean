/- The program's Good of attributes: a theorem for each way through its '&&'. The program's Good of attributes is the document's. The program's Encode of attributes, and Size. The program's Size of attributes. -/
import Derived.Test.YtlhdjdnflpilbaaGreatDoorG11
import Derived.Test.YtlhdjdnflpilbaaGreatDoorG12
import Derived.Test.YtlhdjdnflpilbaaGreatDoorG23
import Derived.Test.YtlhdjdnflpilbaaGreatDoorG06
import Derived.Deep.RegionHeld3
import Derived.Test.YtlhdjdnflpilbaaGreatDoorG25
import Derived.Test.YtlhdjdnflpilbaaGreatDoorG15
namespace Go.Proofs.YtlhdjdnflpilbaaGreatDoor.Att
open Go.RowKit Mem Segm Rise
set_option maxRecDepth 100000 in
set_option maxHeartbeats 8000000 in
theorem pgood_x (h o : Int) (vp : Value) (Ac : Option Addr) (cl cc : Nat) (hp md pr ag ai : Nat) (vN : Value) (w : World) (n : Nat)
    (CN : Hid (∀ W, Below w.heap.size w W → Calls Tryz.prog 68 #[.agg #[.int .i64 h, .int .i64 o, vp, .int .u32 hp, .int .u32 md, .int .u32 pr, .int .u32 ag, .int .u32 ai, .slice Ac cl cc]] W (Tells vN W)))
    (CM : Hid (∀ W, Below w.heap.size w W → Calls Tryz.prog 26 #[.agg #[.int .i64 h, .int .i64 o, vp, .int .u32 hp, .int .u32 md, .int .u32 pr, .int .u32 ag, .int .u32 ai, .slice Ac cl cc], vN] W (Tells (.bool true) W)))
    (CG : Hid (∀ W, Below w.heap.size w W → Calls Tryz.prog 69 #[vp] W (Tells (.bool true) W)))
    (CU : Hid (∀ W, Below w.heap.size w W → Calls Tryz.prog 70 #[vp] W (Tells (.int .i64 n) W)))
    (CH : Hid (∀ W, Calls Tryz.prog 58 #[.agg #[.int .i64 h, .int .i64 o, vp, .int .u32 hp, .int .u32 md, .int .u32 pr, .int .u32 ag, .int .u32 ai, .slice Ac cl cc], .int .i64 3] W (Tells (.bool true) W)))
    (CP : Hid (∀ W, Calls Tryz.prog 71 #[.int .u32 hp] W (Tells (.bool false) W)))
    (z0 : 0 ≤ o) (z1 : o ≤ 2) (z3 : (n : Int) ≤ 2000) : Calls Tryz.prog 27 #[.agg #[.int .i64 h, .int .i64 o, vp, .int .u32 hp, .int .u32 md, .int .u32 pr, .int .u32 ag, .int .u32 ai, .slice Ac cl cc]] w (Tells (.bool false) w) := by
  have HB := Go.Lib.hid ((Below.refl _ w).alloc (Nat.le_refl _) (.cells #[.int .i64 h, .int .i64 o, vp, .int .u32 hp, .int .u32 md, .int .u32 pr, .int .u32 ag, .int .u32 ai, .slice Ac cl cc] 27))
  have HC := Go.Lib.hid (Box9.new w 27 (.int .i64 h) (.int .i64 o) (vp) (.int .u32 hp) (.int .u32 md) (.int .u32 pr) (.int .u32 ag) (.int .u32 ai) (.slice Ac cl cc))
  go_enter Tryz.func27, Tryz.ntmps27
  go_wp2
  have HKC := Go.Lib.hid (fun (W : World) (h : Below (w.alloc (.cells #[.int .i64 h, .int .i64 o, vp, .int .u32 hp, .int .u32 md, .int .u32 pr, .int .u32 ag, .int .u32 ai, .slice Ac cl cc] 27)).heap.size (w.alloc (.cells #[.int .i64 h, .int .i64 o, vp, .int .u32 hp, .int .u32 md, .int .u32 pr, .int .u32 ag, .int .u32 ai, .slice Ac cl cc] 27)) W) => (HC.out.keep h).cells)
  have HBW := Go.Lib.hid (fun (W : World) (h : Below (w.alloc (.cells #[.int .i64 h, .int .i64 o, vp, .int .u32 hp, .int .u32 md, .int .u32 pr, .int .u32 ag, .int .u32 ai, .slice Ac cl cc] 27)).heap.size (w.alloc (.cells #[.int .i64 h, .int .i64 o, vp, .int .u32 hp, .int .u32 md, .int .u32 pr, .int .u32 ag, .int .u32 ai, .slice Ac cl cc] 27)) W) => HB.out.trans (h.mono HB.out.size))
  have BW := Go.Lib.hid ((Below.refl (w.alloc (.cells #[.int .i64 h, .int .i64 o, vp, .int .u32 hp, .int .u32 md, .int .u32 pr, .int .u32 ag, .int .u32 ai, .slice Ac cl cc] 27)).heap.size (w.alloc (.cells #[.int .i64 h, .int .i64 o, vp, .int .u32 hp, .int .u32 md, .int .u32 pr, .int .u32 ag, .int .u32 ai, .slice Ac cl cc] 27))).drew)
  refine wp_region_noPanic ?_
  refine wp_region_held_drew (S := (fun w' => w'.cell? ⟨w.heap.size, 0, none⟩ = some (.int .i64 h) ∧ w'.cell? ⟨w.heap.size, 1, none⟩ = some (.int .i64 o) ∧ w'.cell? ⟨w.heap.size, 2, none⟩ = some (vp) ∧ w'.cell? ⟨w.heap.size, 3, none⟩ = some (.int .u32 hp) ∧ w'.cell? ⟨w.heap.size, 4, none⟩ = some (.int .u32 md) ∧ w'.cell? ⟨w.heap.size, 5, none⟩ = some (.int .u32 pr) ∧ w'.cell? ⟨w.heap.size, 6, none⟩ = some (.int .u32 ag) ∧ w'.cell? ⟨w.heap.size, 7, none⟩ = some (.int .u32 ai) ∧ w'.cell? ⟨w.heap.size, 8, none⟩ = some (.slice Ac cl cc))) (by kernel_rfl) (HKC.out _ BW.out) (fun hHeld => ?_)
  refine Take.tk 0 3 hHeld ?_
  refine Take.tk 1 4 hHeld ?_
  refine wpAnyH_ready (rs := [2]) (by kernel_rfl) (by simp) ?_
  refine AllReadyH.cons (o := ⟨some 5, .call { callee := .value (.func 68), args := #[.tmp 4], argTypes := #[27] }, 27, "attr.go:22", #[⟨1, .data⟩], none⟩) rfl (fun K hK => ?_) AllReadyH.nil
  go_simp
  go_at_call 68; refine (CN.out _ (HBW.out _ BW.out)).mono ?_; rintro e x ⟨rfl, hb⟩; replace BW := Go.Lib.hid (BW.out.trans (hb.mono BW.out.size)); clear hb
  (try go_wp2_with fail)
  refine hK.out _ _ (HKC.out _ BW.out) (fun hHeld1 => ?_)
  clear hK K
  try simp only [Act.put, List.setIfInBounds_toArray, List.set_cons_zero, List.set_cons_succ]
  refine wpAnyH_ready (rs := [3]) (by kernel_rfl) (by simp) ?_
  refine AllReadyH.cons (o := ⟨some 6, .call { callee := .value (.func 26), args := #[.tmp 3, .tmp 5], argTypes := #[27, 27] }, 4, "attr.go:22", #[⟨0, .data⟩, ⟨2, .data⟩, ⟨2, .chain⟩], none⟩) rfl (fun K hK => ?_) AllReadyH.nil
  go_simp
  go_at_call 26; refine (CM.out _ (HBW.out _ BW.out)).mono ?_; rintro e x ⟨rfl, hb⟩; replace BW := Go.Lib.hid (BW.out.trans (hb.mono BW.out.size)); clear hb
  (try go_wp2_with fail)
  refine hK.out _ _ (HKC.out _ BW.out) (fun hHeld2 => ?_)
  clear hK K
  try simp only [Act.put, List.setIfInBounds_toArray, List.set_cons_zero, List.set_cons_succ]
  refine Take.tk 4 7 hHeld2 ?_
  refine Take.tk 5 8 hHeld2 ?_
  refine Take.tk 6 9 hHeld2 ?_
  try simp only [Act.put, List.setIfInBounds_toArray, List.set_cons_zero, List.set_cons_succ]
  refine Take.tk 7 10 hHeld2 ?_
  refine Take.tk 8 11 hHeld2 ?_
  refine Take.tk 9 12 hHeld2 ?_
  try simp only [Act.put, List.setIfInBounds_toArray, List.set_cons_zero, List.set_cons_succ]
  refine Take.tk 10 13 hHeld2 ?_
  refine Take.tk 11 14 hHeld2 ?_
  refine Take.tk 12 15 hHeld2 ?_
  try simp only [Act.put, List.setIfInBounds_toArray, List.set_cons_zero, List.set_cons_succ]
  refine Take.tk 13 16 hHeld2 ?_
  refine Take.tk 14 17 hHeld2 ?_
  refine Take.tk 15 18 hHeld2 ?_
  try simp only [Act.put, List.setIfInBounds_toArray, List.set_cons_zero, List.set_cons_succ]
  refine Take.tk 16 19 hHeld2 ?_
  refine wpAnyH_ready (rs := [17]) (by kernel_rfl) (by simp) ?_
  refine AllReadyH.cons (o := ⟨some 20, .call { callee := .value (.func 69), args := #[.tmp 19], argTypes := #[23] }, 4, "attr.go:24", #[⟨16, .data⟩, ⟨14, .chain⟩, ⟨14, .guard⟩], some (14, true)⟩) rfl (fun K hK => ?_) AllReadyH.nil
  go_simp
  go_at_call 69; refine (CG.out _ (HBW.out _ BW.out)).mono ?_; rintro e x ⟨rfl, hb⟩; replace BW := Go.Lib.hid (BW.out.trans (hb.mono BW.out.size)); clear hb
  (try go_wp2_with fail)
  refine hK.out _ _ (HKC.out _ BW.out) (fun hHeld3 => ?_)
  clear hK K
  try simp only [Act.put, List.setIfInBounds_toArray, List.set_cons_zero, List.set_cons_succ]
  refine Take.tk 18 21 hHeld3 ?_
  refine Take.tk 19 22 hHeld3 ?_
  refine Take.tk 20 23 hHeld3 ?_
  try simp only [Act.put, List.setIfInBounds_toArray, List.set_cons_zero, List.set_cons_succ]
  refine Take.tk 21 24 hHeld3 ?_
  refine wpAnyH_ready (rs := [22]) (by kernel_rfl) (by simp) ?_
  refine AllReadyH.cons (o := ⟨some 25, .call { callee := .value (.func 70), args := #[.tmp 24], argTypes := #[23] }, 3, "attr.go:24", #[⟨21, .data⟩, ⟨19, .chain⟩, ⟨19, .guard⟩], some (19, true)⟩) rfl (fun K hK => ?_) AllReadyH.nil
  go_simp
  go_at_call 70; refine (CU.out _ (HBW.out _ BW.out)).mono ?_; rintro e x ⟨rfl, hb⟩; replace BW := Go.Lib.hid (BW.out.trans (hb.mono BW.out.size)); clear hb
  (try go_wp2_with fail)
  refine hK.out _ _ (HKC.out _ BW.out) (fun hHeld4 => ?_)
  clear hK K
  try simp only [Act.put, List.setIfInBounds_toArray, List.set_cons_zero, List.set_cons_succ]
  refine Take.tk 23 26 hHeld4 ?_
  refine Take.tk 24 27 hHeld4 ?_
  refine Take.tk 25 28 hHeld4 ?_
  try simp only [Act.put, List.setIfInBounds_toArray, List.set_cons_zero, List.set_cons_succ]
  refine Take.tk 26 29 hHeld4 ?_
  refine wpAnyH_ready (rs := [27]) (by kernel_rfl) (by simp) ?_
  refine AllReadyH.cons (o := ⟨some 30, .call { callee := .value (.func 58), args := #[.tmp 29, .const (.int .i64 3)], argTypes := #[27, 3] }, 4, "attr.go:25", #[⟨26, .data⟩, ⟨25, .chain⟩, ⟨25, .guard⟩], some (25, true)⟩) rfl (fun K hK => ?_) AllReadyH.nil
  go_simp
  go_at_call 58; refine (CH.out _).mono ?_; rintro e x ⟨rfl, hb⟩; replace BW := Go.Lib.hid (BW.out.trans (hb.mono BW.out.size)); clear hb
  (try go_wp2_with fail)
  refine hK.out _ _ (HKC.out _ BW.out) (fun hHeld5 => ?_)
  clear hK K
  try simp only [Act.put, List.setIfInBounds_toArray, List.set_cons_zero, List.set_cons_succ]
  refine Take.tk 28 31 hHeld5 ?_
  refine Take.tk 29 32 hHeld5 ?_
  refine Take.tk 30 33 hHeld5 ?_
  try simp only [Act.put, List.setIfInBounds_toArray, List.set_cons_zero, List.set_cons_succ]
  refine Take.tk 31 34 hHeld5 ?_
  refine wpAnyH_ready (rs := [32]) (by kernel_rfl) (by simp) ?_
  refine AllReadyH.cons (o := ⟨some 35, .call { callee := .value (.func 71), args := #[.tmp 34], argTypes := #[24] }, 4, "attr.go:25", #[⟨31, .data⟩, ⟨29, .chain⟩, ⟨29, .guard⟩], some (29, false)⟩) rfl (fun K hK => ?_) AllReadyH.nil
  go_simp
  go_at_call 71; refine (CP.out _).mono ?_; rintro e x ⟨rfl, hb⟩; replace BW := Go.Lib.hid (BW.out.trans (hb.mono BW.out.size)); clear hb
  (try go_wp2_with fail)
  refine hK.out _ _ (HKC.out _ BW.out) (fun hHeld6 => ?_)
  clear hK K
  try simp only [Act.put, List.setIfInBounds_toArray, List.set_cons_zero, List.set_cons_succ]
  refine Take.tk 33 36 hHeld6 ?_
  refine Take.tk 34 37 hHeld6 ?_
  refine Take.tk 35 38 hHeld6 ?_
  try simp only [Act.put, List.setIfInBounds_toArray, List.set_cons_zero, List.set_cons_succ]
  refine Take.sk [(36, 39), (37, 40), (38, 41)] hHeld6 ?_
  try simp only [List.foldl_cons, List.foldl_nil, Act.put, List.setIfInBounds_toArray, List.set_cons_zero, List.set_cons_succ]
  refine Take.tk 39 42 hHeld6 ?_
  refine Take.tk 40 43 hHeld6 ?_
  refine Take.sk [(41, 44), (42, 45), (43, 46), (44, 47)] hHeld6 ?_
  try simp only [List.foldl_cons, List.foldl_nil, Act.put, List.setIfInBounds_toArray, List.set_cons_zero, List.set_cons_succ]
  refine Take.tk 45 48 hHeld6 ?_
  refine Take.tk 46 2 hHeld6 ?_
  refine wpAnyH_done (by kernel_rfl) ?_ _
  refine NoPanic.normal ?_
  go_wp2
  go_ret
  exact ⟨rfl, HBW.out _ BW.out⟩
set_option maxRecDepth 100000 in
set_option maxHeartbeats 8000000 in
theorem pgood_h (h o : Int) (vp : Value) (Ac : Option Addr) (cl cc : Nat) (hp md pr ag ai : Nat) (vN : Value) (w : World) (n : Nat)
    (CN : Hid (∀ W, Below w.heap.size w W → Calls Tryz.prog 68 #[.agg #[.int .i64 h, .int .i64 o, vp, .int .u32 hp, .int .u32 md, .int .u32 pr, .int .u32 ag, .int .u32 ai, .slice Ac cl cc]] W (Tells vN W)))
    (CM : Hid (∀ W, Below w.heap.size w W → Calls Tryz.prog 26 #[.agg #[.int .i64 h, .int .i64 o, vp, .int .u32 hp, .int .u32 md, .int .u32 pr, .int .u32 ag, .int .u32 ai, .slice Ac cl cc], vN] W (Tells (.bool true) W)))
    (CG : Hid (∀ W, Below w.heap.size w W → Calls Tryz.prog 69 #[vp] W (Tells (.bool true) W)))
    (CU : Hid (∀ W, Below w.heap.size w W → Calls Tryz.prog 70 #[vp] W (Tells (.int .i64 n) W)))
    (CH : Hid (∀ W, Calls Tryz.prog 58 #[.agg #[.int .i64 h, .int .i64 o, vp, .int .u32 hp, .int .u32 md, .int .u32 pr, .int .u32 ag, .int .u32 ai, .slice Ac cl cc], .int .i64 3] W (Tells (.bool false) W)))
    (CI : Hid (∀ W, Below w.heap.size w W → Calls Tryz.prog 72 #[.slice Ac cl cc] W (Tells (.bool false) W)))
    (z0 : 0 ≤ o) (z1 : o ≤ 2) (z3 : (n : Int) ≤ 2000) : Calls Tryz.prog 27 #[.agg #[.int .i64 h, .int .i64 o, vp, .int .u32 hp, .int .u32 md, .int .u32 pr, .int .u32 ag, .int .u32 ai, .slice Ac cl cc]] w (Tells (.bool false) w) := by
  have HB := Go.Lib.hid ((Below.refl _ w).alloc (Nat.le_refl _) (.cells #[.int .i64 h, .int .i64 o, vp, .int .u32 hp, .int .u32 md, .int .u32 pr, .int .u32 ag, .int .u32 ai, .slice Ac cl cc] 27))
  have HC := Go.Lib.hid (Box9.new w 27 (.int .i64 h) (.int .i64 o) (vp) (.int .u32 hp) (.int .u32 md) (.int .u32 pr) (.int .u32 ag) (.int .u32 ai) (.slice Ac cl cc))
  go_enter Tryz.func27, Tryz.ntmps27
  go_wp2
  have HKC := Go.Lib.hid (fun (W : World) (h : Below (w.alloc (.cells #[.int .i64 h, .int .i64 o, vp, .int .u32 hp, .int .u32 md, .int .u32 pr, .int .u32 ag, .int .u32 ai, .slice Ac cl cc] 27)).heap.size (w.alloc (.cells #[.int .i64 h, .int .i64 o, vp, .int .u32 hp, .int .u32 md, .int .u32 pr, .int .u32 ag, .int .u32 ai, .slice Ac cl cc] 27)) W) => (HC.out.keep h).cells)
  have HBW := Go.Lib.hid (fun (W : World) (h : Below (w.alloc (.cells #[.int .i64 h, .int .i64 o, vp, .int .u32 hp, .int .u32 md, .int .u32 pr, .int .u32 ag, .int .u32 ai, .slice Ac cl cc] 27)).heap.size (w.alloc (.cells #[.int .i64 h, .int .i64 o, vp, .int .u32 hp, .int .u32 md, .int .u32 pr, .int .u32 ag, .int .u32 ai, .slice Ac cl cc] 27)) W) => HB.out.trans (h.mono HB.out.size))
  have BW := Go.Lib.hid ((Below.refl (w.alloc (.cells #[.int .i64 h, .int .i64 o, vp, .int .u32 hp, .int .u32 md, .int .u32 pr, .int .u32 ag, .int .u32 ai, .slice Ac cl cc] 27)).heap.size (w.alloc (.cells #[.int .i64 h, .int .i64 o, vp, .int .u32 hp, .int .u32 md, .int .u32 pr, .int .u32 ag, .int .u32 ai, .slice Ac cl cc] 27))).drew)
  refine wp_region_noPanic ?_
  refine wp_region_held_drew (S := (fun w' => w'.cell? ⟨w.heap.size, 0, none⟩ = some (.int .i64 h) ∧ w'.cell? ⟨w.heap.size, 1, none⟩ = some (.int .i64 o) ∧ w'.cell? ⟨w.heap.size, 2, none⟩ = some (vp) ∧ w'.cell? ⟨w.heap.size, 3, none⟩ = some (.int .u32 hp) ∧ w'.cell? ⟨w.heap.size, 4, none⟩ = some (.int .u32 md) ∧ w'.cell? ⟨w.heap.size, 5, none⟩ = some (.int .u32 pr) ∧ w'.cell? ⟨w.heap.size, 6, none⟩ = some (.int .u32 ag) ∧ w'.cell? ⟨w.heap.size, 7, none⟩ = some (.int .u32 ai) ∧ w'.cell? ⟨w.heap.size, 8, none⟩ = some (.slice Ac cl cc))) (by kernel_rfl) (HKC.out _ BW.out) (fun hHeld => ?_)
  refine Take.tk 0 3 hHeld ?_
  refine Take.tk 1 4 hHeld ?_
  refine wpAnyH_ready (rs := [2]) (by kernel_rfl) (by simp) ?_
  refine AllReadyH.cons (o := ⟨some 5, .call { callee := .value (.func 68), args := #[.tmp 4], argTypes := #[27] }, 27, "attr.go:22", #[⟨1, .data⟩], none⟩) rfl (fun K hK => ?_) AllReadyH.nil
  go_simp
  go_at_call 68; refine (CN.out _ (HBW.out _ BW.out)).mono ?_; rintro e x ⟨rfl, hb⟩; replace BW := Go.Lib.hid (BW.out.trans (hb.mono BW.out.size)); clear hb
  (try go_wp2_with fail)
  refine hK.out _ _ (HKC.out _ BW.out) (fun hHeld1 => ?_)
  clear hK K
  try simp only [Act.put, List.setIfInBounds_toArray, List.set_cons_zero, List.set_cons_succ]
  refine wpAnyH_ready (rs := [3]) (by kernel_rfl) (by simp) ?_
  refine AllReadyH.cons (o := ⟨some 6, .call { callee := .value (.func 26), args := #[.tmp 3, .tmp 5], argTypes := #[27, 27] }, 4, "attr.go:22", #[⟨0, .data⟩, ⟨2, .data⟩, ⟨2, .chain⟩], none⟩) rfl (fun K hK => ?_) AllReadyH.nil
  go_simp
  go_at_call 26; refine (CM.out _ (HBW.out _ BW.out)).mono ?_; rintro e x ⟨rfl, hb⟩; replace BW := Go.Lib.hid (BW.out.trans (hb.mono BW.out.size)); clear hb
  (try go_wp2_with fail)
  refine hK.out _ _ (HKC.out _ BW.out) (fun hHeld2 => ?_)
  clear hK K
  try simp only [Act.put, List.setIfInBounds_toArray, List.set_cons_zero, List.set_cons_succ]
  refine Take.tk 4 7 hHeld2 ?_
  refine Take.tk 5 8 hHeld2 ?_
  refine Take.tk 6 9 hHeld2 ?_
  try simp only [Act.put, List.setIfInBounds_toArray, List.set_cons_zero, List.set_cons_succ]
  refine Take.tk 7 10 hHeld2 ?_
  refine Take.tk 8 11 hHeld2 ?_
  refine Take.tk 9 12 hHeld2 ?_
  try simp only [Act.put, List.setIfInBounds_toArray, List.set_cons_zero, List.set_cons_succ]
  refine Take.tk 10 13 hHeld2 ?_
  refine Take.tk 11 14 hHeld2 ?_
  refine Take.tk 12 15 hHeld2 ?_
  try simp only [Act.put, List.setIfInBounds_toArray, List.set_cons_zero, List.set_cons_succ]
  refine Take.tk 13 16 hHeld2 ?_
  refine Take.tk 14 17 hHeld2 ?_
  refine Take.tk 15 18 hHeld2 ?_
  try simp only [Act.put, List.setIfInBounds_toArray, List.set_cons_zero, List.set_cons_succ]
  refine Take.tk 16 19 hHeld2 ?_
  refine wpAnyH_ready (rs := [17]) (by kernel_rfl) (by simp) ?_
  refine AllReadyH.cons (o := ⟨some 20, .call { callee := .value (.func 69), args := #[.tmp 19], argTypes := #[23] }, 4, "attr.go:24", #[⟨16, .data⟩, ⟨14, .chain⟩, ⟨14, .guard⟩], some (14, true)⟩) rfl (fun K hK => ?_) AllReadyH.nil
  go_simp
  go_at_call 69; refine (CG.out _ (HBW.out _ BW.out)).mono ?_; rintro e x ⟨rfl, hb⟩; replace BW := Go.Lib.hid (BW.out.trans (hb.mono BW.out.size)); clear hb
  (try go_wp2_with fail)
  refine hK.out _ _ (HKC.out _ BW.out) (fun hHeld3 => ?_)
  clear hK K
  try simp only [Act.put, List.setIfInBounds_toArray, List.set_cons_zero, List.set_cons_succ]
  refine Take.tk 18 21 hHeld3 ?_
  refine Take.tk 19 22 hHeld3 ?_
  refine Take.tk 20 23 hHeld3 ?_
  try simp only [Act.put, List.setIfInBounds_toArray, List.set_cons_zero, List.set_cons_succ]
  refine Take.tk 21 24 hHeld3 ?_
  refine wpAnyH_ready (rs := [22]) (by kernel_rfl) (by simp) ?_
  refine AllReadyH.cons (o := ⟨some 25, .call { callee := .value (.func 70), args := #[.tmp 24], argTypes := #[23] }, 3, "attr.go:24", #[⟨21, .data⟩, ⟨19, .chain⟩, ⟨19, .guard⟩], some (19, true)⟩) rfl (fun K hK => ?_) AllReadyH.nil
  go_simp
  go_at_call 70; refine (CU.out _ (HBW.out _ BW.out)).mono ?_; rintro e x ⟨rfl, hb⟩; replace BW := Go.Lib.hid (BW.out.trans (hb.mono BW.out.size)); clear hb
  (try go_wp2_with fail)
  refine hK.out _ _ (HKC.out _ BW.out) (fun hHeld4 => ?_)
  clear hK K
  try simp only [Act.put, List.setIfInBounds_toArray, List.set_cons_zero, List.set_cons_succ]
  refine Take.tk 23 26 hHeld4 ?_
  refine Take.tk 24 27 hHeld4 ?_
  refine Take.tk 25 28 hHeld4 ?_
  try simp only [Act.put, List.setIfInBounds_toArray, List.set_cons_zero, List.set_cons_succ]
  refine Take.tk 26 29 hHeld4 ?_
  refine wpAnyH_ready (rs := [27]) (by kernel_rfl) (by simp) ?_
  refine AllReadyH.cons (o := ⟨some 30, .call { callee := .value (.func 58), args := #[.tmp 29, .const (.int .i64 3)], argTypes := #[27, 3] }, 4, "attr.go:25", #[⟨26, .data⟩, ⟨25, .chain⟩, ⟨25, .guard⟩], some (25, true)⟩) rfl (fun K hK => ?_) AllReadyH.nil
  go_simp
  go_at_call 58; refine (CH.out _).mono ?_; rintro e x ⟨rfl, hb⟩; replace BW := Go.Lib.hid (BW.out.trans (hb.mono BW.out.size)); clear hb
  (try go_wp2_with fail)
  refine hK.out _ _ (HKC.out _ BW.out) (fun hHeld5 => ?_)
  clear hK K
  try simp only [Act.put, List.setIfInBounds_toArray, List.set_cons_zero, List.set_cons_succ]
  refine Take.tk 28 31 hHeld5 ?_
  refine Take.tk 29 32 hHeld5 ?_
  refine Take.sk [(30, 33), (31, 34), (32, 35)] hHeld5 ?_
  try simp only [List.foldl_cons, List.foldl_nil, Act.put, List.setIfInBounds_toArray, List.set_cons_zero, List.set_cons_succ]
  refine Take.tk 33 36 hHeld5 ?_
  refine Take.tk 34 37 hHeld5 ?_
  refine Take.tk 35 38 hHeld5 ?_
  try simp only [Act.put, List.setIfInBounds_toArray, List.set_cons_zero, List.set_cons_succ]
  refine Take.tk 36 39 hHeld5 ?_
  refine Take.tk 37 40 hHeld5 ?_
  refine wpAnyH_ready (rs := [38]) (by kernel_rfl) (by simp) ?_
  refine AllReadyH.cons (o := ⟨some 41, .call { callee := .value (.func 72), args := #[.tmp 40], argTypes := #[25] }, 4, "attr.go:26", #[⟨37, .data⟩, ⟨35, .chain⟩, ⟨35, .guard⟩], some (35, true)⟩) rfl (fun K hK => ?_) AllReadyH.nil
  go_simp
  go_at_call 72; refine (CI.out _ (HBW.out _ BW.out)).mono ?_; rintro e x ⟨rfl, hb⟩; replace BW := Go.Lib.hid (BW.out.trans (hb.mono BW.out.size)); clear hb
  (try go_wp2_with fail)
  refine hK.out _ _ (HKC.out _ BW.out) (fun hHeld6 => ?_)
  clear hK K
  try simp only [Act.put, List.setIfInBounds_toArray, List.set_cons_zero, List.set_cons_succ]
  refine Take.tk 39 42 hHeld6 ?_
  refine Take.tk 40 43 hHeld6 ?_
  refine Take.sk [(41, 44), (42, 45), (43, 46), (44, 47)] hHeld6 ?_
  try simp only [List.foldl_cons, List.foldl_nil, Act.put, List.setIfInBounds_toArray, List.set_cons_zero, List.set_cons_succ]
  refine Take.tk 45 48 hHeld6 ?_
  refine Take.tk 46 2 hHeld6 ?_
  refine wpAnyH_done (by kernel_rfl) ?_ _
  refine NoPanic.normal ?_
  go_wp2
  go_ret
  exact ⟨rfl, HBW.out _ BW.out⟩
set_option maxRecDepth 100000 in
set_option maxHeartbeats 8000000 in
theorem pgood_i (h o : Int) (vp : Value) (Ac : Option Addr) (cl cc : Nat) (hp md pr ag ai : Nat) (vN : Value) (w : World) (n : Nat) (q : Bool)
    (CN : Hid (∀ W, Below w.heap.size w W → Calls Tryz.prog 68 #[.agg #[.int .i64 h, .int .i64 o, vp, .int .u32 hp, .int .u32 md, .int .u32 pr, .int .u32 ag, .int .u32 ai, .slice Ac cl cc]] W (Tells vN W)))
    (CM : Hid (∀ W, Below w.heap.size w W → Calls Tryz.prog 26 #[.agg #[.int .i64 h, .int .i64 o, vp, .int .u32 hp, .int .u32 md, .int .u32 pr, .int .u32 ag, .int .u32 ai, .slice Ac cl cc], vN] W (Tells (.bool true) W)))
    (CG : Hid (∀ W, Below w.heap.size w W → Calls Tryz.prog 69 #[vp] W (Tells (.bool true) W)))
    (CU : Hid (∀ W, Below w.heap.size w W → Calls Tryz.prog 70 #[vp] W (Tells (.int .i64 n) W)))
    (CH : Hid (∀ W, Calls Tryz.prog 58 #[.agg #[.int .i64 h, .int .i64 o, vp, .int .u32 hp, .int .u32 md, .int .u32 pr, .int .u32 ag, .int .u32 ai, .slice Ac cl cc], .int .i64 3] W (Tells (.bool false) W)))
    (CI : Hid (∀ W, Below w.heap.size w W → Calls Tryz.prog 72 #[.slice Ac cl cc] W (Tells (.bool true) W)))
    (z0 : 0 ≤ o) (z1 : o ≤ 2) (z3 : (n : Int) ≤ 2000) (z2 : decide ((cl : Int) ≤ 255) = q) : Calls Tryz.prog 27 #[.agg #[.int .i64 h, .int .i64 o, vp, .int .u32 hp, .int .u32 md, .int .u32 pr, .int .u32 ag, .int .u32 ai, .slice Ac cl cc]] w (Tells (.bool q) w) := by
  have HB := Go.Lib.hid ((Below.refl _ w).alloc (Nat.le_refl _) (.cells #[.int .i64 h, .int .i64 o, vp, .int .u32 hp, .int .u32 md, .int .u32 pr, .int .u32 ag, .int .u32 ai, .slice Ac cl cc] 27))
  have HC := Go.Lib.hid (Box9.new w 27 (.int .i64 h) (.int .i64 o) (vp) (.int .u32 hp) (.int .u32 md) (.int .u32 pr) (.int .u32 ag) (.int .u32 ai) (.slice Ac cl cc))
  go_enter Tryz.func27, Tryz.ntmps27
  go_wp2
  have HKC := Go.Lib.hid (fun (W : World) (h : Below (w.alloc (.cells #[.int .i64 h, .int .i64 o, vp, .int .u32 hp, .int .u32 md, .int .u32 pr, .int .u32 ag, .int .u32 ai, .slice Ac cl cc] 27)).heap.size (w.alloc (.cells #[.int .i64 h, .int .i64 o, vp, .int .u32 hp, .int .u32 md, .int .u32 pr, .int .u32 ag, .int .u32 ai, .slice Ac cl cc] 27)) W) => (HC.out.keep h).cells)
  have HBW := Go.Lib.hid (fun (W : World) (h : Below (w.alloc (.cells #[.int .i64 h, .int .i64 o, vp, .int .u32 hp, .int .u32 md, .int .u32 pr, .int .u32 ag, .int .u32 ai, .slice Ac cl cc] 27)).heap.size (w.alloc (.cells #[.int .i64 h, .int .i64 o, vp, .int .u32 hp, .int .u32 md, .int .u32 pr, .int .u32 ag, .int .u32 ai, .slice Ac cl cc] 27)) W) => HB.out.trans (h.mono HB.out.size))
  have BW := Go.Lib.hid ((Below.refl (w.alloc (.cells #[.int .i64 h, .int .i64 o, vp, .int .u32 hp, .int .u32 md, .int .u32 pr, .int .u32 ag, .int .u32 ai, .slice Ac cl cc] 27)).heap.size (w.alloc (.cells #[.int .i64 h, .int .i64 o, vp, .int .u32 hp, .int .u32 md, .int .u32 pr, .int .u32 ag, .int .u32 ai, .slice Ac cl cc] 27))).drew)
  refine wp_region_noPanic ?_
  refine wp_region_held_drew (S := (fun w' => w'.cell? ⟨w.heap.size, 0, none⟩ = some (.int .i64 h) ∧ w'.cell? ⟨w.heap.size, 1, none⟩ = some (.int .i64 o) ∧ w'.cell? ⟨w.heap.size, 2, none⟩ = some (vp) ∧ w'.cell? ⟨w.heap.size, 3, none⟩ = some (.int .u32 hp) ∧ w'.cell? ⟨w.heap.size, 4, none⟩ = some (.int .u32 md) ∧ w'.cell? ⟨w.heap.size, 5, none⟩ = some (.int .u32 pr) ∧ w'.cell? ⟨w.heap.size, 6, none⟩ = some (.int .u32 ag) ∧ w'.cell? ⟨w.heap.size, 7, none⟩ = some (.int .u32 ai) ∧ w'.cell? ⟨w.heap.size, 8, none⟩ = some (.slice Ac cl cc))) (by kernel_rfl) (HKC.out _ BW.out) (fun hHeld => ?_)
  refine Take.tk 0 3 hHeld ?_
  refine Take.tk 1 4 hHeld ?_
  refine wpAnyH_ready (rs := [2]) (by kernel_rfl) (by simp) ?_
  refine AllReadyH.cons (o := ⟨some 5, .call { callee := .value (.func 68), args := #[.tmp 4], argTypes := #[27] }, 27, "attr.go:22", #[⟨1, .data⟩], none⟩) rfl (fun K hK => ?_) AllReadyH.nil
  go_simp
  go_at_call 68; refine (CN.out _ (HBW.out _ BW.out)).mono ?_; rintro e x ⟨rfl, hb⟩; replace BW := Go.Lib.hid (BW.out.trans (hb.mono BW.out.size)); clear hb
  (try go_wp2_with fail)
  refine hK.out _ _ (HKC.out _ BW.out) (fun hHeld1 => ?_)
  clear hK K
  try simp only [Act.put, List.setIfInBounds_toArray, List.set_cons_zero, List.set_cons_succ]
  refine wpAnyH_ready (rs := [3]) (by kernel_rfl) (by simp) ?_
  refine AllReadyH.cons (o := ⟨some 6, .call { callee := .value (.func 26), args := #[.tmp 3, .tmp 5], argTypes := #[27, 27] }, 4, "attr.go:22", #[⟨0, .data⟩, ⟨2, .data⟩, ⟨2, .chain⟩], none⟩) rfl (fun K hK => ?_) AllReadyH.nil
  go_simp
  go_at_call 26; refine (CM.out _ (HBW.out _ BW.out)).mono ?_; rintro e x ⟨rfl, hb⟩; replace BW := Go.Lib.hid (BW.out.trans (hb.mono BW.out.size)); clear hb
  (try go_wp2_with fail)
  refine hK.out _ _ (HKC.out _ BW.out) (fun hHeld2 => ?_)
  clear hK K
  try simp only [Act.put, List.setIfInBounds_toArray, List.set_cons_zero, List.set_cons_succ]
  refine Take.tk 4 7 hHeld2 ?_
  refine Take.tk 5 8 hHeld2 ?_
  refine Take.tk 6 9 hHeld2 ?_
  try simp only [Act.put, List.setIfInBounds_toArray, List.set_cons_zero, List.set_cons_succ]
  refine Take.tk 7 10 hHeld2 ?_
  refine Take.tk 8 11 hHeld2 ?_
  refine Take.tk 9 12 hHeld2 ?_
  try simp only [Act.put, List.setIfInBounds_toArray, List.set_cons_zero, List.set_cons_succ]
  refine Take.tk 10 13 hHeld2 ?_
  refine Take.tk 11 14 hHeld2 ?_
  refine Take.tk 12 15 hHeld2 ?_
  try simp only [Act.put, List.setIfInBounds_toArray, List.set_cons_zero, List.set_cons_succ]
  refine Take.tk 13 16 hHeld2 ?_
  refine Take.tk 14 17 hHeld2 ?_
  refine Take.tk 15 18 hHeld2 ?_
  try simp only [Act.put, List.setIfInBounds_toArray, List.set_cons_zero, List.set_cons_succ]
  refine Take.tk 16 19 hHeld2 ?_
  refine wpAnyH_ready (rs := [17]) (by kernel_rfl) (by simp) ?_
  refine AllReadyH.cons (o := ⟨some 20, .call { callee := .value (.func 69), args := #[.tmp 19], argTypes := #[23] }, 4, "attr.go:24", #[⟨16, .data⟩, ⟨14, .chain⟩, ⟨14, .guard⟩], some (14, true)⟩) rfl (fun K hK => ?_) AllReadyH.nil
  go_simp
  go_at_call 69; refine (CG.out _ (HBW.out _ BW.out)).mono ?_; rintro e x ⟨rfl, hb⟩; replace BW := Go.Lib.hid (BW.out.trans (hb.mono BW.out.size)); clear hb
  (try go_wp2_with fail)
  refine hK.out _ _ (HKC.out _ BW.out) (fun hHeld3 => ?_)
  clear hK K
  try simp only [Act.put, List.setIfInBounds_toArray, List.set_cons_zero, List.set_cons_succ]
  refine Take.tk 18 21 hHeld3 ?_
  refine Take.tk 19 22 hHeld3 ?_
  refine Take.tk 20 23 hHeld3 ?_
  try simp only [Act.put, List.setIfInBounds_toArray, List.set_cons_zero, List.set_cons_succ]
  refine Take.tk 21 24 hHeld3 ?_
  refine wpAnyH_ready (rs := [22]) (by kernel_rfl) (by simp) ?_
  refine AllReadyH.cons (o := ⟨some 25, .call { callee := .value (.func 70), args := #[.tmp 24], argTypes := #[23] }, 3, "attr.go:24", #[⟨21, .data⟩, ⟨19, .chain⟩, ⟨19, .guard⟩], some (19, true)⟩) rfl (fun K hK => ?_) AllReadyH.nil
  go_simp
  go_at_call 70; refine (CU.out _ (HBW.out _ BW.out)).mono ?_; rintro e x ⟨rfl, hb⟩; replace BW := Go.Lib.hid (BW.out.trans (hb.mono BW.out.size)); clear hb
  (try go_wp2_with fail)
  refine hK.out _ _ (HKC.out _ BW.out) (fun hHeld4 => ?_)
  clear hK K
  try simp only [Act.put, List.setIfInBounds_toArray, List.set_cons_zero, List.set_cons_succ]
  refine Take.tk 23 26 hHeld4 ?_
  refine Take.tk 24 27 hHeld4 ?_
  refine Take.tk 25 28 hHeld4 ?_
  try simp only [Act.put, List.setIfInBounds_toArray, List.set_cons_zero, List.set_cons_succ]
  refine Take.tk 26 29 hHeld4 ?_
  refine wpAnyH_ready (rs := [27]) (by kernel_rfl) (by simp) ?_
  refine AllReadyH.cons (o := ⟨some 30, .call { callee := .value (.func 58), args := #[.tmp 29, .const (.int .i64 3)], argTypes := #[27, 3] }, 4, "attr.go:25", #[⟨26, .data⟩, ⟨25, .chain⟩, ⟨25, .guard⟩], some (25, true)⟩) rfl (fun K hK => ?_) AllReadyH.nil
  go_simp
  go_at_call 58; refine (CH.out _).mono ?_; rintro e x ⟨rfl, hb⟩; replace BW := Go.Lib.hid (BW.out.trans (hb.mono BW.out.size)); clear hb
  (try go_wp2_with fail)
  refine hK.out _ _ (HKC.out _ BW.out) (fun hHeld5 => ?_)
  clear hK K
  try simp only [Act.put, List.setIfInBounds_toArray, List.set_cons_zero, List.set_cons_succ]
  refine Take.tk 28 31 hHeld5 ?_
  refine Take.tk 29 32 hHeld5 ?_
  refine Take.sk [(30, 33), (31, 34), (32, 35)] hHeld5 ?_
  try simp only [List.foldl_cons, List.foldl_nil, Act.put, List.setIfInBounds_toArray, List.set_cons_zero, List.set_cons_succ]
  refine Take.tk 33 36 hHeld5 ?_
  refine Take.tk 34 37 hHeld5 ?_
  refine Take.tk 35 38 hHeld5 ?_
  try simp only [Act.put, List.setIfInBounds_toArray, List.set_cons_zero, List.set_cons_succ]
  refine Take.tk 36 39 hHeld5 ?_
  refine Take.tk 37 40 hHeld5 ?_
  refine wpAnyH_ready (rs := [38]) (by kernel_rfl) (by simp) ?_
  refine AllReadyH.cons (o := ⟨some 41, .call { callee := .value (.func 72), args := #[.tmp 40], argTypes := #[25] }, 4, "attr.go:26", #[⟨37, .data⟩, ⟨35, .chain⟩, ⟨35, .guard⟩], some (35, true)⟩) rfl (fun K hK => ?_) AllReadyH.nil
  go_simp
  go_at_call 72; refine (CI.out _ (HBW.out _ BW.out)).mono ?_; rintro e x ⟨rfl, hb⟩; replace BW := Go.Lib.hid (BW.out.trans (hb.mono BW.out.size)); clear hb
  (try go_wp2_with fail)
  refine hK.out _ _ (HKC.out _ BW.out) (fun hHeld6 => ?_)
  clear hK K
  try simp only [Act.put, List.setIfInBounds_toArray, List.set_cons_zero, List.set_cons_succ]
  refine Take.tk 39 42 hHeld6 ?_
  refine Take.tk 40 43 hHeld6 ?_
  refine Take.tk 41 44 hHeld6 ?_
  try simp only [Act.put, List.setIfInBounds_toArray, List.set_cons_zero, List.set_cons_succ]
  refine Take.tk 42 45 hHeld6 ?_
  refine Take.tk 43 46 hHeld6 ?_
  refine Take.tk 44 47 hHeld6 ?_
  try simp only [Act.put, List.setIfInBounds_toArray, List.set_cons_zero, List.set_cons_succ]
  refine Take.tk 45 48 hHeld6 ?_
  refine Take.tk 46 2 hHeld6 ?_
  refine wpAnyH_done (by kernel_rfl) ?_ _
  refine NoPanic.normal ?_
  go_wp2
  go_ret
  exact ⟨rfl, HBW.out _ BW.out⟩
end Go.Proofs.YtlhdjdnflpilbaaGreatDoor.Att
namespace Go.Proofs.YtlhdjdnflpilbaaGreatDoor.Att
open Go.RowKit Mem Segm Rise
theorem pres_good {a : At} (h1 : goodP a.path = true) (h2 : rising a.comms) : normA a = presA a := by
  unfold normA presA
  rw [good_norm h1, (setOf_iff _).2 h2]
theorem norm_pres {a : At} (h : normA a = a) : presA a = a ∧ rising a.comms := by
  obtain ⟨h0, o, p, hp, md, pr, ag, ai, cm⟩ := a
  unfold normA at h
  injection h with e0 e1 e2 e3 e4 e5 e6 e7 e8
  dsimp only at e0 e1 e2 e3 e4 e5 e6 e7 e8
  refine ⟨?_, ?_⟩
  · unfold presA
    dsimp only
    rw [e0, e1, e3, e4, e5, e6, e7]
    congr 1
    · cases hb : hasB h0 2 with
      | true => rw [if_pos rfl]
      | false => rw [hb] at e2; simpa using e2
    · cases hb : hasB h0 8 with
      | true => rw [if_pos rfl]
      | false => rw [hb] at e8; simpa using e8
  · dsimp only
    cases hb : hasB h0 8 with
    | true => rw [hb, if_pos rfl] at e8; exact (setOf_iff _).1 e8
    | false =>
      rw [hb] at e8
      have : cm = [] := by simpa using e8.symm
      rw [this]; exact rising_nil
theorem goodA_is (a : At) : goodA a = (sameA a (presA a) && decide (0 ≤ a.origin) && decide (a.origin ≤ 2) && goodP a.path && decide (lens a.path ≤ 2000) && (!hasB a.has 3 || hopB a.hop) && decide (rising a.comms) && decide (a.comms.length ≤ 255)) := by
  rw [Bool.eq_iff_iff]
  unfold goodA waysP
  simp only [Bool.and_eq_true, decide_eq_true_eq, sameA_iff]
  constructor
  · rintro ⟨⟨⟨⟨⟨h1, h2⟩, h3⟩, h4, h5⟩, h6⟩, h7⟩
    obtain ⟨k1, k2⟩ := norm_pres h1
    exact ⟨⟨⟨⟨⟨⟨⟨k1.symm, h2⟩, h3⟩, h4⟩, h5⟩, h6⟩, k2⟩, h7⟩
  · rintro ⟨⟨⟨⟨⟨⟨⟨h1, h2⟩, h3⟩, h4⟩, h5⟩, h6⟩, h7⟩, h8⟩
    exact ⟨⟨⟨⟨⟨(pres_good h4 h7).trans h1.symm, h2⟩, h3⟩, h4, h5⟩, h6⟩, h8⟩
theorem good_any (v : Value) (a : At) (w : World) (hv : Attrs w v a) (hln : lens a.path ≤ 100000) : Calls Tryz.prog 27 #[v] w (Tells (.bool (goodA a)) w) := by
  rw [goodA_is]
  have hv0 := hv
  obtain ⟨vN, hN, hPN⟩ := present_exact v a w hv
  obtain ⟨hok, vp, vc, rfl, hP, hC⟩ := hv
  have hhop : a.hop < 4294967296 := hok.2.2.1
  obtain ⟨Ac, cc, rfl, hlc, hcc, -, -⟩ := hC.open_
  have CN := Go.Lib.hid hPN
  have CM := Go.Lib.hid (fun W (hb : Below w.heap.size w W) => sameA_any _ vN a (presA a) W (hv0.keep hb) (hN.keep hb))
  have CG := Go.Lib.hid (fun W (hb : Below w.heap.size w W) => pgood_any vp a.path W (hP.keep hb))
  have CU := Go.Lib.hid (fun W (hb : Below w.heap.size w W) => numbers_any vp a.path W (hP.keep hb) hln)
  have CH := Go.Lib.hid (fun W => show Calls Tryz.prog 58 #[.agg #[.int .i64 a.has, .int .i64 a.origin, vp, .int .u32 (a.hop : Nat), .int .u32 (a.med : Nat), .int .u32 (a.pref : Nat), .int .u32 (a.aas : Nat), .int .u32 (a.aid : Nat), .slice Ac a.comms.length cc], .int .i64 3] W (Tells (.bool (hasB a.has 3)) W) from has_any a.has 3 _ _ _ _ _ _ _ _ W (by decide))
  have CP := Go.Lib.hid (fun W => hop_any a.hop W hhop)
  have CI := Go.Lib.hid (fun W (hb : Below w.heap.size w W) => Nums.is_any _ a.comms W (hC.keep hb))
  have hd : decide ((a.comms.length : Int) ≤ 255) = decide (a.comms.length ≤ 255) := by
    by_cases h : a.comms.length ≤ 255
    · rw [decide_eq_true h, decide_eq_true (by omega)]
    · rw [decide_eq_false h, decide_eq_false (by omega)]
  cases h1 : sameA a (presA a) with
  | false => rw [h1] at CM; exact pgood_n _ _ _ _ _ _ _ _ _ _ _ _ w CN CM
  | true =>
    rw [h1] at CM
    by_cases h2 : 0 ≤ a.origin
    case neg => rw [decide_eq_false h2]; exact pgood_o _ _ _ _ _ _ _ _ _ _ _ _ w CN CM (decide_eq_false h2)
    rw [decide_eq_true h2]
    by_cases h3 : a.origin ≤ 2
    case neg => rw [decide_eq_false h3]; exact pgood_p _ _ _ _ _ _ _ _ _ _ _ _ w CN CM h2 (decide_eq_false h3)
    rw [decide_eq_true h3]
    cases h4 : goodP a.path with
    | false => rw [h4] at CG; exact pgood_w _ _ _ _ _ _ _ _ _ _ _ _ w CN CM CG h2 h3
    | true =>
      rw [h4] at CG
      by_cases h5 : lens a.path ≤ 2000
      case neg => rw [decide_eq_false h5]; exact pgood_u _ _ _ _ _ _ _ _ _ _ _ _ w _ CN CM CG CU h2 h3 (decide_eq_false (by omega))
      rw [decide_eq_true h5]
      have z3 : ((lens a.path : Nat) : Int) ≤ 2000 := by omega
      cases h6 : hasB a.has 3 with
      | false =>
        rw [h6] at CH
        cases h7 : decide (rising a.comms) with
        | false => rw [h7] at CI; exact pgood_h _ _ _ _ _ _ _ _ _ _ _ _ w _ CN CM CG CU CH CI h2 h3 z3
        | true => rw [h7] at CI; exact pgood_i _ _ _ _ _ _ _ _ _ _ _ _ w _ _ CN CM CG CU CH CI h2 h3 z3 hd
      | true =>
        rw [h6] at CH
        cases h8 : hopB a.hop with
        | false => rw [h8] at CP; exact pgood_x _ _ _ _ _ _ _ _ _ _ _ _ w _ CN CM CG CU CH CP h2 h3 z3
        | true =>
          rw [h8] at CP
          cases h7 : decide (rising a.comms) with
          | false => rw [h7] at CI; exact pgood_y _ _ _ _ _ _ _ _ _ _ _ _ w _ CN CM CG CU CH CP CI h2 h3 z3
          | true => rw [h7] at CI; exact pgood_z _ _ _ _ _ _ _ _ _ _ _ _ w _ _ CN CM CG CU CH CP CI h2 h3 z3 hd
end Go.Proofs.YtlhdjdnflpilbaaGreatDoor.Att
namespace Go.Proofs.YtlhdjdnflpilbaaGreatDoor.Att
open Go.RowKit Mem Segm Oct
theorem valB_len {a : At} (hg : goodA a = true) (k : Nat) : (valB a k).length ≤ 8200 := by
  have hg2 := hg
  unfold goodA waysP goodP at hg2
  simp only [Bool.and_eq_true, decide_eq_true_eq] at hg2
  obtain ⟨⟨⟨_, ⟨⟨h1, _⟩, h2⟩⟩, _⟩, h3⟩ := hg2
  unfold valB
  repeat' split
  all_goals first
    | (rw [pathB_len]; omega)
    | (rw [fours_len]; omega)
    | (simp only [List.length_append, big_len, List.length_cons, List.length_nil]; omega)
theorem valB_small (a : At) (k : Nat) : Small (valB a k) := by
  unfold valB
  repeat' split
  all_goals first
    | exact pathB_small _
    | exact fours_small _
    | exact big_small _ _
    | exact (big_small _ _).append (big_small _ _)
    | exact small_nil
    | (intro n hn; rw [List.mem_singleton.1 hn]; exact lo8_lt _)
theorem flagN_is3 {k : Nat} (h1 : 1 ≤ k) (h8 : k ≤ 8) : flagN k = 64 ∨ flagN k = 128 ∨ flagN k = 192 := by
  unfold flagN
  split
  · exact .inl rfl
  · split
    · exact .inr (.inl rfl)
    · rw [if_pos (by omega)]; exact .inr (.inr rfl)
theorem attrB_len {a : At} (hg : goodA a = true) (k : Nat) : (attrB a k).length ≤ 8300 := by
  have h := valB_len hg k
  unfold attrB itemB
  split <;> simp only [List.length_cons, List.length_append, big_len] <;> omega
theorem encTo_len {a : At} (hg : goodA a = true) : ∀ k, (encTo a k).length ≤ 8300 * k
  | 0 => Nat.le_refl _
  | k + 1 => by
    have ih := encTo_len hg k
    have h2 := attrB_len hg (k + 1)
    unfold encTo
    rw [List.length_append]
    split
    · omega
    · simp only [List.length_nil]; omega
def EncA (a : At) (w : World) (e : Ending) (w' : World) : Prop :=
  (goodA a = false ∧ e = .returned (.tuple #[.slice none 0 0, .int .i64 1]) ∧ Below w.heap.size w w') ∨
  (goodA a = true ∧ ∃ A c, e = .returned (.tuple #[.slice A (encA a).length c, .int .i64 0]) ∧ w'.ownsRow w.heap.size 5 1 (.slice A (encA a).length c) (encA a).length (cells8 (encA a)) ∧ Below w.heap.size w w')
section
variable {w0 W W2 : World} {P : Value} {B : Nat} {x0 x1 x2 x3 x4 x5 x6 x7 x8 : Value} {l : List Nat} {F : Nat → Prop}
theorem ValSt.box (h : ValSt w0 P B x0 x1 x2 x3 x4 x5 x6 x7 x8 l F W) (x y z : Value) : ValSt w0 P B x0 x1 x2 x3 x4 x5 x6 x7 x8 l F (W.alloc (.cells #[x, y, z] 90)) ∧ (Box3 (W.alloc (.cells #[x, y, z] 90)) W.heap.size 90 x y z ∧ ¬ F W.heap.size ∧ B ≠ W.heap.size ∧ w0.heap.size ≤ W.heap.size) :=
  ⟨h.below ((Below.refl _ _).alloc (Nat.le_refl _) _), Box3.new _ _ _ _ _, fun hf => by have := (h.wr.lt _ hf).2; omega, by have := h.b9.lt; omega, h.low.size⟩
theorem ValSt.boxn (h : ValSt w0 P B x0 x1 x2 x3 x4 x5 x6 x7 x8 l F W) {n : Nat} (hn : W.heap.size = n) (x y z : Value) : ValSt w0 P B x0 x1 x2 x3 x4 x5 x6 x7 x8 l F (W.alloc (.cells #[x, y, z] 90)) ∧ (Box3 (W.alloc (.cells #[x, y, z] 90)) n 90 x y z ∧ ¬ F n ∧ B ≠ n ∧ w0.heap.size ≤ n) := by
  subst hn
  exact h.box x y z
theorem ValSt.laid (h : ValSt w0 P B x0 x1 x2 x3 x4 x5 x6 x7 x8 l F W) {C : Nat} (x y z : Value) (hF : ¬ F C) (hB : B ≠ C) (hl : w0.heap.size ≤ C) : ValSt w0 P B x0 x1 x2 x3 x4 x5 x6 x7 x8 l F (three W C x y z) := by
  have ho := three_off W C x y z
  exact ⟨h.wr.keep (fun k hk => ho.1 k (fun e => hF (e ▸ hk))), h.nb, ⟨(ho.1 B hB).trans h.b9.blk⟩, three_low h.low C hl _ _ _⟩
end
theorem ValSt.set1 {w0 W : World} {P : Value} {B C i : Nat} {x0 x1 x2 x3 x4 x5 x6 x7 x8 : Value} {l : List Nat} {F : Nat → Prop} (h : ValSt w0 P B x0 x1 x2 x3 x4 x5 x6 x7 x8 l F W) (v : Value) (hF : ¬ F C) (hB : B ≠ C) (hl : w0.heap.size ≤ C) : ValSt w0 P B x0 x1 x2 x3 x4 x5 x6 x7 x8 l F (W.setCell ⟨C, i, none⟩ v) :=
  ⟨h.wr.keep (fun k hk => Go.RowKit.Below.heap_setCell _ _ _ _ (fun e => hF (by have e2 : k = C := e; exact e2 ▸ hk))), h.nb, box_far h.b9 hB, h.low.setCell (p := ⟨C, i, none⟩) hl v⟩
def Beside (W : World) (F : Nat → Prop) (v : Value) (m : List Nat) : Prop := U8s W v m ∧ Lies W.heap.size F v
theorem Beside.keep {W W' : World} {F : Nat → Prop} {v : Value} {m : List Nat} (h : Beside W F v m) (hb : Below W.heap.size W W') : Beside W' F v m :=
  ⟨h.1.keep hb, fun g hg => ⟨Nat.lt_of_lt_of_le (h.2 g hg).1 hb.size, (h.2 g hg).2⟩⟩
theorem Beside.only {W : World} {F : Nat → Prop} {v : Value} {m : List Nat} (h : Beside W F v m) : ∀ W', Only F W W' → U8s W' v m := fun _ ho => h.1.part (fun g hg => ho.block g (h.2 g hg).1 (h.2 g hg).2) ho.size
theorem Beside.laid {W : World} {F : Nat → Prop} {v : Value} {m : List Nat} {C : Nat} (h : Beside W F v m) (x y z : Value) (hC : ∀ g, v.ownBlock = some g → g ≠ C) : Beside (three W C x y z) F v m := by
  have ho := three_off W C x y z
  exact ⟨h.1.part (fun g hg => ho.1 g (hC g hg)) ho.2, fun g hg => ⟨Nat.lt_of_lt_of_le (h.2 g hg).1 ho.2, (h.2 g hg).2⟩⟩
theorem Beside.set1 {W : World} {F : Nat → Prop} {v : Value} {m : List Nat} {C i : Nat} (h : Beside W F v m) (x : Value) (hC : ∀ g, v.ownBlock = some g → g ≠ C) : Beside (W.setCell ⟨C, i, none⟩ x) F v m :=
  ⟨h.1.part (fun g hg => Go.RowKit.Below.heap_setCell _ _ _ _ (hC g hg)) (by simp), fun g hg => ⟨Nat.lt_of_lt_of_le (h.2 g hg).1 (by simp), (h.2 g hg).2⟩⟩
set_option maxRecDepth 100000 in
set_option maxHeartbeats 8000000 in
theorem encode_any (v : Value) (a : At) (w : World) (hv : Attrs w v a) (hS : Shp w) (hln : lens a.path ≤ 100000) : Calls Tryz.prog 21 #[v] w (EncA a w) := by
  have HV := Go.Lib.hid hv
  obtain ⟨_, vp, vc, rfl, -, -⟩ := hv
  have HSH := Go.Lib.hid hS
  have H1 := Go.Lib.hid (Box9.new w 27 (.int .i64 a.has) (.int .i64 a.origin) (vp) (.int .u32 (a.hop : Nat)) (.int .u32 (a.med : Nat)) (.int .u32 (a.pref : Nat)) (.int .u32 (a.aas : Nat)) (.int .u32 (a.aid : Nat)) (vc))
  have B1 := Go.Lib.hid (show Below w.heap.size w (w.alloc (.cells #[.int .i64 a.has, .int .i64 a.origin, vp, .int .u32 (a.hop : Nat), .int .u32 (a.med : Nat), .int .u32 (a.pref : Nat), .int .u32 (a.aas : Nat), .int .u32 (a.aid : Nat), vc] 27)) from (Below.refl _ w).alloc (Nat.le_refl _) _)
  obtain ⟨c0, c1, c2, c3, c4, c5, c6, c7, c8⟩ := H1.out.cells
  have CG := Go.Lib.hid (fun (W : World) (h : Below w.heap.size w W) => good_any _ a W (HV.out.keep h) hln)
  cases hg : goodA a with
  | false =>
    rw [hg] at CG
    clear hS hln
    unfold acells at CG ⊢
    go_enter Tryz.func21, Tryz.ntmps21
    go_wp2_with (go_at_call 27; refine (CG.out _ B1.out).mono ?_; rintro e x ⟨rfl, hb⟩; have B2 := Go.Lib.hid (B1.out.trans (hb.mono B1.out.size)); clear hb)
    go_ret2
    exact .inl ⟨hg, rfl, B2.out⟩
  | true =>
    rw [hg] at CG
    have HGD := Go.Lib.hid hg
    have CH := Go.Lib.hid (fun (k : Nat) (hk : k ≤ 8) (W : World) => has_any a.has k (.int .i64 a.origin) vp (.int .u32 (a.hop : Nat)) (.int .u32 (a.med : Nat)) (.int .u32 (a.pref : Nat)) (.int .u32 (a.aas : Nat)) (.int .u32 (a.aid : Nat)) vc W hk)
    clear hS hln hg
    unfold acells at CG HV ⊢
    go_enter Tryz.func21, Tryz.ntmps21
    go_wp2_with (go_at_call 27; refine (CG.out _ B1.out).mono ?_; rintro e x ⟨rfl, hb⟩; have S0 := Go.Lib.hid (show ValSt w (.pointer (some ⟨x.heap.size, 0, none⟩)) w.heap.size (.int .i64 a.has) (.int .i64 a.origin) (vp) (.int .u32 (a.hop : Nat)) (.int .u32 (a.med : Nat)) (.int .u32 (a.pref : Nat)) (.int .u32 (a.aas : Nat)) (.int .u32 (a.aid : Nat)) (vc) (encTo a 0) (fun k => k = x.heap.size) (x.alloc (.cells #[.slice none 0 0] 52)) from ⟨wr_zero x (B1.out.trans (hb.mono B1.out.size)).size, (by have h1 := (H1.out.keep hb).lt; show ¬ _ = _; omega), (H1.out.keep hb).keep ((Below.refl _ x).alloc (Nat.le_refl _) _), (B1.out.trans (hb.mono B1.out.size)).alloc (B1.out.trans (hb.mono B1.out.size)).size _⟩); clear hb)
    go_loopw [5] (fun v5 wx => ∃ (j : Nat) (F : Nat → Prop), j ≤ 8 ∧ v5 = .int .i64 ((j + 1 : Nat) : Int) ∧ Hid (ValSt w (.pointer (some ⟨x.heap.size, 0, none⟩)) w.heap.size (.int .i64 a.has) (.int .i64 a.origin) (vp) (.int .u32 (a.hop : Nat)) (.int .u32 (a.med : Nat)) (.int .u32 (a.pref : Nat)) (.int .u32 (a.aas : Nat)) (.int .u32 (a.aid : Nat)) (vc) (encTo a j) F wx)) (fun v5 _ => 12 - (intOf v5).toNat)
    case atStart => exact ⟨0, _, by omega, rfl, S0⟩
    case round =>
      obtain ⟨j, F, hj, rfl, ST⟩ := hrel
      clear c0 c1 c2 c3 c4 c5 c6 c7 c8
      by_cases hlt : j < 8
      · have z1 : ((j + 1 : Nat) : Int) ≤ 8 := by omega
        obtain ⟨k, hk⟩ : ∃ k, k = j + 1 := ⟨_, rfl⟩
        have HT := Go.Lib.hid (show encTo a k = encTo a j ++ if hasB a.has (k : Int) then attrB a k else [] by rw [hk]; rfl)
        have HN := Go.Lib.hid (encTo_len HGD.out j)
        have CHK := Go.Lib.hid (fun W => CH.out k (by omega) W)
        have wk : wrap64 ((k : Int) + 1) = ((k + 1 : Nat) : Int) := by unfold wrap64; omega
        rw [← hk] at z1
        rw [← hk]
        have HK := Go.Lib.hid (show 1 ≤ k ∧ k ≤ 8 from ⟨by omega, by omega⟩)
        obtain ⟨c0, c1, c2, c3, c4, c5, c6, c7, c8⟩ := ST.out.b9.cells
        cases hb : hasB a.has (k : Int) with
        | false =>
          rw [hb] at CHK HT
          clear hb hk
          go_wp2_with (go_at_call 58; refine (CHK.out _).mono ?_; rintro e y ⟨rfl, hy⟩; have S2 := Go.Lib.hid (ST.out.below hy); clear hy c0 c1 c2 c3 c4 c5 c6 c7 c8)
          go_roundw
          case rel =>
            refine ⟨k, F, HK.out.2, by first | exact congrArg _ wk | go_num, Go.Lib.hid ?_⟩
            rw [HT.out, if_neg (by decide), List.append_nil]
            exact S2.out
          case measure => have h := HK.out; simp [intOf]; omega
        | true =>
          rw [hb] at CHK HT
          clear hb hk
          have CF := Go.Lib.hid (fun W (h : Below w.heap.size w W) => show Calls Tryz.prog 59 #[.int .i64 k] W (Tells (.int .i64 (flagN k : Nat)) W) from by
            have q := flags_any (k : Int) W (HSH.out.keep h)
            rw [flagN_is] at q
            exact q)
          have hgb := HGD.out
          unfold goodA waysP goodP at hgb
          simp only [Bool.and_eq_true, decide_eq_true_eq] at hgb
          obtain ⟨⟨⟨_, ⟨⟨hp1, _⟩, hp2⟩⟩, _⟩, hp3⟩ := hgb
          have CV := Go.Lib.hid (fun W (h : Below w.heap.size w W) => value_any _ a k W (HV.out.keep h) HK.out.1 HK.out.2 (by omega) (by omega) (by omega))
          clear hp1 hp2 hp3
          have HVL := Go.Lib.hid (And.intro (valB_len HGD.out k) (valB_small a k))
          have HAT := Go.Lib.hid (show attrB a k = itemB (longF (flagN k) (valB a k).length) k (valB a k) from rfl)
          generalize valB a k = m at CV HVL HAT
          go_upto_region 8 with (go_at_call 58; refine (CHK.out _).mono ?_; rintro e y ⟨rfl, hy⟩; replace ST := Go.Lib.hid (ST.out.below hy); clear hy c0 c1 c2 c3 c4 c5 c6 c7 c8; obtain ⟨c0, c1, c2, c3, c4, c5, c6, c7, c8⟩ := ST.out.b9.cells)
          go_cut [6] from 18 to 24 (fun s6 wx => ∃ (C : Nat) (Av : Option Addr) (cv : Nat), s6 = .pointer (some ⟨C, 0, none⟩) ∧ Hid (ValSt w (.pointer (some ⟨x.heap.size, 0, none⟩)) w.heap.size (.int .i64 a.has) (.int .i64 a.origin) (vp) (.int .u32 (a.hop : Nat)) (.int .u32 (a.med : Nat)) (.int .u32 (a.pref : Nat)) (.int .u32 (a.aas : Nat)) (.int .u32 (a.aid : Nat)) (vc) (encTo a j) F wx) ∧ Hid (Box3 wx C 90 (.int .i64 (flagN k : Nat)) (.int .i64 k) (.slice Av m.length cv) ∧ ¬ F C ∧ w.heap.size ≠ C ∧ w.heap.size ≤ C) ∧ Hid (Beside wx F (.slice Av m.length cv) m) ∧ Hid (∀ g, (Value.slice Av m.length cv).ownBlock = some g → g ≠ C))
          case first =>
            have D0 := Go.Lib.hid (ST.out.below (Below.refl _ _).drew)
            clear ST c0 c1 c2 c3 c4 c5 c6 c7 c8
            obtain ⟨c0, c1, c2, c3, c4, c5, c6, c7, c8⟩ := D0.out.b9.cells
            go_region_held3 (fun w' => w'.cell? ⟨w.heap.size, 0, none⟩ = some (.int .i64 a.has) ∧ w'.cell? ⟨w.heap.size, 1, none⟩ = some (.int .i64 a.origin) ∧ w'.cell? ⟨w.heap.size, 2, none⟩ = some (vp) ∧ w'.cell? ⟨w.heap.size, 3, none⟩ = some (.int .u32 (a.hop : Nat)) ∧ w'.cell? ⟨w.heap.size, 4, none⟩ = some (.int .u32 (a.med : Nat)) ∧ w'.cell? ⟨w.heap.size, 5, none⟩ = some (.int .u32 (a.pref : Nat)) ∧ w'.cell? ⟨w.heap.size, 6, none⟩ = some (.int .u32 (a.aas : Nat)) ∧ w'.cell? ⟨w.heap.size, 7, none⟩ = some (.int .u32 (a.aid : Nat)) ∧ w'.cell? ⟨w.heap.size, 8, none⟩ = some (vc)) (first | exact ⟨by assumption, by assumption, by assumption, by assumption, by assumption, by assumption, by assumption, by assumption, by assumption⟩ | exact (D0.out.b9.keep ((Below.refl _ _).alloc (Nat.le_refl _) _)).cells | exact (D0.out.laid _ _ _ BX.out.2.1 BX.out.2.2.1 BX.out.2.2.2).b9.cells) (first
              | (go_at_call 59; first | ((first | (refine (CF.out _ D0.out.low).mono ?_) | (first | (have HNE := Go.Lib.hid (fun g (hg : (Value.slice Av m.length cv).ownBlock = some g) => Nat.ne_of_lt (HM.out.2 g hg).1); replace HM := Go.Lib.hid (HM.out.keep ((Below.refl _ _).alloc (Nat.le_refl _) (.cells #[.int .i64 0, .int .i64 0, .slice none 0 0] 90)))) | skip); (first | obtain ⟨hD, hB⟩ := D0.out.boxn (n := y.heap.size) rfl (.int .i64 0) (.int .i64 0) (.slice none 0 0) | obtain ⟨hD, hB⟩ := D0.out.box (.int .i64 0) (.int .i64 0) (.slice none 0 0)); replace D0 := Go.Lib.hid hD; have BX := Go.Lib.hid hB; clear hD hB; refine (CF.out _ D0.out.low).mono ?_); rintro e z ⟨rfl, hz⟩; (first | replace HM := Go.Lib.hid (HM.out.keep hz) | skip); (first | (replace BX := Go.Lib.hid (And.intro (BX.out.1.keep hz) BX.out.2); obtain ⟨b0, b1, b2⟩ := BX.out.1.cells; have bf := BX.out.1.free) | skip); replace D0 := Go.Lib.hid (D0.out.below hz); clear hz c0 c1 c2 c3 c4 c5 c6 c7 c8; obtain ⟨c0, c1, c2, c3, c4, c5, c6, c7, c8⟩ := D0.out.b9.cells) | (trace "FELL F"; trace_state; fail_if_success skip))
              | (go_at_call 60; first | ((first | (refine (CV.out _ D0.out.low).mono ?_) | ((first | obtain ⟨hD, hB⟩ := D0.out.boxn (n := y.heap.size) rfl (.int .i64 0) (.int .i64 0) (.slice none 0 0) | obtain ⟨hD, hB⟩ := D0.out.box (.int .i64 0) (.int .i64 0) (.slice none 0 0)); replace D0 := Go.Lib.hid hD; have BX := Go.Lib.hid hB; clear hD hB; refine (CV.out _ D0.out.low).mono ?_)); rintro e z ⟨Av, cv, rfl, ho, hz⟩; (first | have HNE := Go.Lib.hid (fun g (hg : (Value.slice Av m.length cv).ownBlock = some g) => Nat.ne_of_gt (Nat.lt_of_lt_of_le BX.out.1.lt (ho.lt g hg).1)) | skip); have HM := Go.Lib.hid (show Beside z F (.slice Av m.length cv) m from ⟨U8s.of_own ho HVL.out.2, fun g hg => ⟨(ho.lt g hg).2, fun hf => by have h1 := (D0.out.wr.lt g hf).2; have h2 := (ho.lt g hg).1; omega⟩⟩); (first | (replace BX := Go.Lib.hid (And.intro (BX.out.1.keep hz) BX.out.2); obtain ⟨b0, b1, b2⟩ := BX.out.1.cells; have bf := BX.out.1.free) | skip); replace D0 := Go.Lib.hid (D0.out.below hz); clear ho hz c0 c1 c2 c3 c4 c5 c6 c7 c8; obtain ⟨c0, c1, c2, c3, c4, c5, c6, c7, c8⟩ := D0.out.b9.cells) | (trace "FELL V"; trace_state; fail_if_success skip)))
            · go_wp2_with fail
              go_meet
              exact ⟨_, Av, cv, rfl, Go.Lib.hid (D0.out.box _ _ _).1, Go.Lib.hid (D0.out.box _ _ _).2, Go.Lib.hid (HM.out.keep ((Below.refl _ _).alloc (Nat.le_refl _) _)), Go.Lib.hid (fun g hg => Nat.ne_of_lt (HM.out.2 g hg).1)⟩
            · go_wp2_with fail
              go_meet
              exact ⟨_, Av, cv, rfl, Go.Lib.hid (D0.out.laid _ _ _ BX.out.2.1 BX.out.2.2.1 BX.out.2.2.2), Go.Lib.hid ⟨BX.out.1.laid _ _ _, BX.out.2⟩, Go.Lib.hid (HM.out.laid _ _ _ HNE.out), HNE⟩
            · go_wp2_with fail
              go_meet
              exact ⟨_, Av, cv, rfl, Go.Lib.hid (D0.out.laid _ _ _ BX.out.2.1 BX.out.2.2.1 BX.out.2.2.2), Go.Lib.hid ⟨BX.out.1.laid _ _ _, BX.out.2⟩, Go.Lib.hid (HM.out.laid _ _ _ HNE.out), HNE⟩
          case rest =>
          clear ST c0 c1 c2 c3 c4 c5 c6 c7 c8
          obtain ⟨C, Av, cv, rfl, ST, BX, HM, HNE⟩ := hcut
          obtain ⟨b0, b1, b2⟩ := BX.out.1.cells
          have bf := BX.out.1.free
          have HFL := Go.Lib.hid (flagN_is3 HK.out.1 HK.out.2)
          by_cases hm : 255 < m.length
          · have z255 : (255 : Int) < (m.length : Int) := by omega
            have o16 : bits .or .i64 (flagN k : Nat) 16 = ((flagN k + 16 : Nat) : Int) := by rcases HFL.out with e | e | e <;> rw [e] <;> first | exact or16.1 | exact or16.2.1 | exact or16.2.2
            have HLF := Go.Lib.hid (show attrB a k = itemB (flagN k + 16) k m by rw [HAT.out]; unfold longF; rw [if_pos hm])
            have BX2 := Go.Lib.hid (BX.out.1.set0 (.int .i64 ((flagN k + 16 : Nat) : Int)))
            obtain ⟨q0, q1, q2⟩ := BX2.out.cells
            have ST2 := Go.Lib.hid (ST.out.set1 (i := 0) (.int .i64 ((flagN k + 16 : Nat) : Int)) BX.out.2.1 BX.out.2.2.1 BX.out.2.2.2)
            have HM2 := Go.Lib.hid (HM.out.set1 (i := 0) (.int .i64 ((flagN k + 16 : Nat) : Int)) HNE.out)
            go_wp2_with (go_at_call 61; first | (refine (put_item _ Av cv w.heap.size (flagN k + 16) k _ m F _ ST2.out.wr HM2.out.only (by have h1 := HN.out; have h2 := HVL.out.1; omega) ST2.out.low.size (by have := HFL.out; omega) (by have := HK.out; omega) (by have h2 := HVL.out.1; omega) (by have := HFL.out; omega)).mono ?_; rintro e z ⟨rfl, F2, hS⟩; have S3 := Go.Lib.hid (ST2.out.wst hS); clear hS) | (trace "FELL PUT"; trace_state; fail_if_success skip))
            go_roundw
            case rel =>
              refine ⟨k, F2, HK.out.2, by first | exact congrArg _ wk | go_num, Go.Lib.hid ?_⟩
              rw [HT.out, if_pos trivial, HLF.out]
              exact S3.out
            case measure => have h := HK.out; simp [intOf]; omega
          · have z255 : decide ((255 : Int) < (m.length : Int)) = false := decide_eq_false (by omega)
            have HLF := Go.Lib.hid (show attrB a k = itemB (flagN k) k m by rw [HAT.out]; unfold longF; rw [if_neg hm])
            go_wp2_with (go_at_call 61; first | (refine (put_item _ Av cv w.heap.size (flagN k) k _ m F _ ST.out.wr HM.out.only (by have h1 := HN.out; have h2 := HVL.out.1; omega) ST.out.low.size (by have := HFL.out; omega) (by have := HK.out; omega) (by have h2 := HVL.out.1; omega) (by have := HFL.out; omega)).mono ?_; rintro e z ⟨rfl, F2, hS⟩; have S3 := Go.Lib.hid (ST.out.wst hS); clear hS) | (trace "FELL PUT"; trace_state; fail_if_success skip))
            go_roundw
            case rel =>
              refine ⟨k, F2, HK.out.2, by first | exact congrArg _ wk | go_num, Go.Lib.hid ?_⟩
              rw [HT.out, if_pos trivial, HLF.out]
              exact S3.out
            case measure => have h := HK.out; simp [intOf]; omega
      · obtain rfl : j = 8 := by omega
        have z1 : decide (((8 + 1 : Nat) : Int) ≤ 8) = false := rfl
        have HN := Go.Lib.hid (encTo_len HGD.out 8)
        go_wp2_with (go_at_call 24; first | (refine (wbytes_any _ _ _ _ _ ST.out.wr (by have := HN.out; omega)).mono ?_; rintro e y ⟨A1, c1, rfl, ho, hy⟩; have HO := Go.Lib.hid (own_base ho ST.out.low.size); have HY := Go.Lib.hid (ST.out.low.trans (hy.mono ST.out.low.size)); clear ho hy) | (trace "FELL"; trace_state; fail_if_success skip))
        go_ret2
        exact .inr ⟨HGD.out, A1, c1, rfl, HO.out, HY.out⟩
end Go.Proofs.YtlhdjdnflpilbaaGreatDoor.Att
namespace Go.Proofs.YtlhdjdnflpilbaaGreatDoor.Att
open Go.RowKit Mem Segm Oct
def sizeA (a : At) : Nat := if goodA a then (encA a).length else 0
theorem enc_good {v : Value} {a : At} {w : World} (hv : Attrs w v a) (hS : Shp w) (hln : lens a.path ≤ 100000) (hg : goodA a = true) : Calls Tryz.prog 21 #[v] w (fun e w' => ∃ A c, e = .returned (.tuple #[.slice A (encA a).length c, .int .i64 0]) ∧ w'.ownsRow w.heap.size 5 1 (.slice A (encA a).length c) (encA a).length (cells8 (encA a)) ∧ Below w.heap.size w w') :=
  (encode_any v a w hv hS hln).mono fun e w' h => by
    rcases h with ⟨h1, _⟩ | ⟨_, h2⟩
    · rw [hg] at h1; cases h1
    · exact h2
theorem enc_bad {v : Value} {a : At} {w : World} (hv : Attrs w v a) (hS : Shp w) (hln : lens a.path ≤ 100000) (hg : goodA a = false) : Calls Tryz.prog 21 #[v] w (Tells (.tuple #[.slice none 0 0, .int .i64 1]) w) :=
  (encode_any v a w hv hS hln).mono fun e w' h => by
    rcases h with ⟨_, h2⟩ | ⟨h1, _⟩
    · exact h2
    · rw [hg] at h1; cases h1
set_option maxHeartbeats 1000000 in
theorem asize_any (v : Value) (a : At) (w : World) (hv : Attrs w v a) (hS : Shp w) (hln : lens a.path ≤ 100000) : Calls Tryz.prog 36 #[v] w (Tells (.int .i64 (sizeA a : Nat)) w) := by
  have HV := Go.Lib.hid hv
  obtain ⟨_, vp, vc, rfl, -, -⟩ := hv
  have HSH := Go.Lib.hid hS
  have H1 := Go.Lib.hid (Box9.new w 27 (.int .i64 a.has) (.int .i64 a.origin) (vp) (.int .u32 (a.hop : Nat)) (.int .u32 (a.med : Nat)) (.int .u32 (a.pref : Nat)) (.int .u32 (a.aas : Nat)) (.int .u32 (a.aid : Nat)) (vc))
  have B1 := Go.Lib.hid (show Below w.heap.size w (w.alloc (.cells #[.int .i64 a.has, .int .i64 a.origin, vp, .int .u32 (a.hop : Nat), .int .u32 (a.med : Nat), .int .u32 (a.pref : Nat), .int .u32 (a.aas : Nat), .int .u32 (a.aid : Nat), vc] 27)) from (Below.refl _ w).alloc (Nat.le_refl _) _)
  obtain ⟨c0, c1, c2, c3, c4, c5, c6, c7, c8⟩ := H1.out.cells
  cases hg : goodA a with
  | false =>
    have HZ := Go.Lib.hid (show sizeA a = 0 by unfold sizeA; rw [hg]; rfl)
    have C := Go.Lib.hid (enc_bad (HV.out.keep B1.out) (HSH.out.keep B1.out) hln hg)
    unfold acells at C ⊢
    clear hg hS hln
    go_enter Tryz.func36, Tryz.ntmps36
    go_wp2_with (go_at_call 21; refine C.out.mono ?_; rintro e x ⟨rfl, hb⟩; have B2 := Go.Lib.hid (B1.out.trans (hb.mono B1.out.size)); clear hb)
    go_ret
    rw [HZ.out]
    exact ⟨rfl, B2.out⟩
  | true =>
    have HZ := Go.Lib.hid (show sizeA a = (encA a).length by unfold sizeA; rw [hg]; rfl)
    have C := Go.Lib.hid (enc_good (HV.out.keep B1.out) (HSH.out.keep B1.out) hln hg)
    unfold acells at C ⊢
    clear hg hS hln
    go_enter Tryz.func36, Tryz.ntmps36
    go_wp2_with (go_at_call 21; refine C.out.mono ?_; rintro e x ⟨A, c, rfl, -, hb⟩; have B2 := Go.Lib.hid (B1.out.trans (hb.mono B1.out.size)); clear hb)
    go_ret
    rw [HZ.out]
    exact ⟨rfl, B2.out⟩
end Go.Proofs.YtlhdjdnflpilbaaGreatDoor.Att
