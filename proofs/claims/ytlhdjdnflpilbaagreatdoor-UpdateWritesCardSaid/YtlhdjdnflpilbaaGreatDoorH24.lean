/- The program's Good of attributes: a theorem for each way through its '&&'. The program's Good of attributes: a theorem for each way through its '&&'. The program's Good of attributes: a theorem for each way through its '&&'. -/
import Derived.Test.YtlhdjdnflpilbaaGreatDoorH17
import Derived.Test.YtlhdjdnflpilbaaGreatDoorH18
import Derived.Test.YtlhdjdnflpilbaaGreatDoorH22
import Derived.Test.YtlhdjdnflpilbaaGreatDoorH06
import Derived.Deep.RegionHeld3
namespace Go.Proofs.YtlhdjdnflpilbaaGreatDoor.Att
open Go.RowKit Mem Segm Rise
set_option maxRecDepth 100000 in
set_option maxHeartbeats 8000000 in
theorem pgood_n (h o : Int) (vp : Value) (Ac : Option Addr) (cl cc : Nat) (hp md pr ag ai : Nat) (vN : Value) (w : World)
  (CN : Hid (∀ W, Below w.heap.size w W → Calls Tryz.prog 68 #[.agg #[.int .i64 h, .int .i64 o, vp, .int .u32 hp, .int .u32 md, .int .u32 pr, .int .u32 ag, .int .u32 ai, .slice Ac cl cc]] W (Tells vN W)))
  (CM : Hid (∀ W, Below w.heap.size w W → Calls Tryz.prog 26 #[.agg #[.int .i64 h, .int .i64 o, vp, .int .u32 hp, .int .u32 md, .int .u32 pr, .int .u32 ag, .int .u32 ai, .slice Ac cl cc], vN] W (Tells (.bool false) W)))
  : Calls Tryz.prog 27 #[.agg #[.int .i64 h, .int .i64 o, vp, .int .u32 hp, .int .u32 md, .int .u32 pr, .int .u32 ag, .int .u32 ai, .slice Ac cl cc]] w (Tells (.bool false) w) := by
 have HB := Go.Lib.hid ((Below.refl _ w).alloc (Nat.le_refl _) (.cells #[.int .i64 h, .int .i64 o, vp, .int .u32 hp, .int .u32 md, .int .u32 pr, .int .u32 ag, .int .u32 ai, .slice Ac cl cc] 27))
 have HC := Go.Lib.hid (Box9.new w 27 (.int .i64 h) (.int .i64 o) (vp) (.int .u32 hp) (.int .u32 md) (.int .u32 pr) (.int .u32 ag) (.int .u32 ai) (.slice Ac cl cc))
 go_enter Tryz.func27, Tryz.ntmps27
 go_wp2
 have HKC := Go.Lib.hid (fun (W : World) (h : Below (w.alloc (.cells #[.int .i64 h, .int .i64 o, vp, .int .u32 hp, .int .u32 md, .int .u32 pr, .int .u32 ag, .int .u32 ai, .slice Ac cl cc] 27)).heap.size (w.alloc (.cells #[.int .i64 h, .int .i64 o, vp, .int .u32 hp, .int .u32 md, .int .u32 pr, .int .u32 ag, .int .u32 ai, .slice Ac cl cc] 27)) W) => (HC.out.keep h).cells)
 have HBW := Go.Lib.hid (fun (W : World) (h : Below (w.alloc (.cells #[.int .i64 h, .int .i64 o, vp, .int .u32 hp, .int .u32 md, .int .u32 pr, .int .u32 ag, .int .u32 ai, .slice Ac cl cc] 27)).heap.size (w.alloc (.cells #[.int .i64 h, .int .i64 o, vp, .int .u32 hp, .int .u32 md, .int .u32 pr, .int .u32 ag, .int .u32 ai, .slice Ac cl cc] 27)) W) => HB.out.trans (h.mono HB.out.size))
 have BW := Go.Lib.hid ((Below.refl (w.alloc (.cells #[.int .i64 h, .int .i64 o, vp, .int .u32 hp, .int .u32 md, .int .u32 pr, .int .u32 ag, .int .u32 ai, .slice Ac cl cc] 27)).heap.size (w.alloc (.cells #[.int .i64 h, .int .i64 o, vp, .int .u32 hp, .int .u32 md, .int .u32 pr, .int .u32 ag, .int .u32 ai, .slice Ac cl cc] 27))).drew)
 refine wp_region_noPanic ?_
 refine wp_region_held_drew (S := (fun w' => w'.cell? ⟨w.heap.size, 0, none⟩ = some (.int .i64 h) ∧ w'.cell? ⟨w.heap.size, 1, none⟩ = some (.int .i64 o) ∧ w'.cell? ⟨w.heap.size, 2, none⟩ = some (vp) ∧ w'.cell? ⟨w.heap.size, 3, none⟩ = some (.int .u32 hp) ∧ w'.cell? ⟨w.heap.size, 4, none⟩ = some (.int .u32 md) ∧ w'.cell? ⟨w.heap.size, 5, none⟩ = some (.int .u32 pr) ∧ w'.cell? ⟨w.heap.size, 6, none⟩ = some (.int .u32 ag) ∧ w'.cell? ⟨w.heap.size, 7, none⟩ = some (.int .u32 ai) ∧ w'.cell? ⟨w.heap.size, 8, none⟩ = some (.slice Ac cl cc))) (by kernel_rfl) (HKC.out _ BW.out) (fun hHeld => ?_)
 refine Take.tk 0 3 hHeld ?_
 refine Take.tk 1 4 hHeld ?_
 refine wpAnyH_ready (rs := [2]) (by kernel_rfl) (by simp) ?_
 refine AllReadyH.cons (o := ⟨some 5, .call { callee := .value (.func 68), args := #[.tmp 4], argTypes := #[27] }, 27, "attr.go:22", #[⟨1, .data⟩], none⟩) rfl (fun K hK => ?_) AllReadyH.nil
 go_simp
 go_at_call 68; refine (CN.out _ (HBW.out _ BW.out)).mono ?_; rintro e x ⟨rfl, hb⟩; replace BW := Go.Lib.hid (BW.out.trans (hb.mono BW.out.size)); clear hb
 (try go_wp2_with fail)
 refine hK.out _ _ (HKC.out _ BW.out) (fun hHeld1 => ?_)
 clear hK K
 try simp only [Act.put, List.setIfInBounds_toArray, List.set_cons_zero, List.set_cons_succ]
 refine wpAnyH_ready (rs := [3]) (by kernel_rfl) (by simp) ?_
 refine AllReadyH.cons (o := ⟨some 6, .call { callee := .value (.func 26), args := #[.tmp 3, .tmp 5], argTypes := #[27, 27] }, 4, "attr.go:22", #[⟨0, .data⟩, ⟨2, .data⟩, ⟨2, .chain⟩], none⟩) rfl (fun K hK => ?_) AllReadyH.nil
 go_simp
 go_at_call 26; refine (CM.out _ (HBW.out _ BW.out)).mono ?_; rintro e x ⟨rfl, hb⟩; replace BW := Go.Lib.hid (BW.out.trans (hb.mono BW.out.size)); clear hb
 (try go_wp2_with fail)
 refine hK.out _ _ (HKC.out _ BW.out) (fun hHeld2 => ?_)
 clear hK K
 try simp only [Act.put, List.setIfInBounds_toArray, List.set_cons_zero, List.set_cons_succ]
 refine Take.tk 4 7 hHeld2 ?_
 refine Take.sk [(5, 8), (6, 9), (7, 10)] hHeld2 ?_
 try simp only [List.foldl_cons, List.foldl_nil, Act.put, List.setIfInBounds_toArray, List.set_cons_zero, List.set_cons_succ]
 refine Take.tk 8 11 hHeld2 ?_
 refine Take.tk 9 12 hHeld2 ?_
 refine Take.sk [(10, 13), (11, 14), (12, 15)] hHeld2 ?_
 try simp only [List.foldl_cons, List.foldl_nil, Act.put, List.setIfInBounds_toArray, List.set_cons_zero, List.set_cons_succ]
 refine Take.tk 13 16 hHeld2 ?_
 refine Take.tk 14 17 hHeld2 ?_
 refine Take.sk [(15, 18), (16, 19), (17, 20)] hHeld2 ?_
 try simp only [List.foldl_cons, List.foldl_nil, Act.put, List.setIfInBounds_toArray, List.set_cons_zero, List.set_cons_succ]
 refine Take.tk 18 21 hHeld2 ?_
 refine Take.tk 19 22 hHeld2 ?_
 refine Take.sk [(20, 23), (21, 24), (22, 25), (23, 26)] hHeld2 ?_
 try simp only [List.foldl_cons, List.foldl_nil, Act.put, List.setIfInBounds_toArray, List.set_cons_zero, List.set_cons_succ]
 refine Take.tk 24 27 hHeld2 ?_
 refine Take.tk 25 28 hHeld2 ?_
 refine Take.sk [(26, 29), (27, 30), (28, 31), (29, 32), (30, 33), (31, 34), (32, 35), (33, 36)] hHeld2 ?_
 try simp only [List.foldl_cons, List.foldl_nil, Act.put, List.setIfInBounds_toArray, List.set_cons_zero, List.set_cons_succ]
 refine Take.tk 34 37 hHeld2 ?_
 refine Take.tk 35 38 hHeld2 ?_
 refine Take.sk [(36, 39), (37, 40), (38, 41)] hHeld2 ?_
 try simp only [List.foldl_cons, List.foldl_nil, Act.put, List.setIfInBounds_toArray, List.set_cons_zero, List.set_cons_succ]
 refine Take.tk 39 42 hHeld2 ?_
 refine Take.tk 40 43 hHeld2 ?_
 refine Take.sk [(41, 44), (42, 45), (43, 46), (44, 47)] hHeld2 ?_
 try simp only [List.foldl_cons, List.foldl_nil, Act.put, List.setIfInBounds_toArray, List.set_cons_zero, List.set_cons_succ]
 refine Take.tk 45 48 hHeld2 ?_
 refine Take.tk 46 2 hHeld2 ?_
 refine wpAnyH_done (by kernel_rfl) ?_ _
 refine NoPanic.normal ?_
 go_wp2
 go_ret
 exact ⟨rfl, HBW.out _ BW.out⟩
set_option maxRecDepth 100000 in
set_option maxHeartbeats 8000000 in
theorem pgood_o (h o : Int) (vp : Value) (Ac : Option Addr) (cl cc : Nat) (hp md pr ag ai : Nat) (vN : Value) (w : World)
  (CN : Hid (∀ W, Below w.heap.size w W → Calls Tryz.prog 68 #[.agg #[.int .i64 h, .int .i64 o, vp, .int .u32 hp, .int .u32 md, .int .u32 pr, .int .u32 ag, .int .u32 ai, .slice Ac cl cc]] W (Tells vN W)))
  (CM : Hid (∀ W, Below w.heap.size w W → Calls Tryz.prog 26 #[.agg #[.int .i64 h, .int .i64 o, vp, .int .u32 hp, .int .u32 md, .int .u32 pr, .int .u32 ag, .int .u32 ai, .slice Ac cl cc], vN] W (Tells (.bool true) W)))
  (z0 : decide (0 ≤ o) = false) : Calls Tryz.prog 27 #[.agg #[.int .i64 h, .int .i64 o, vp, .int .u32 hp, .int .u32 md, .int .u32 pr, .int .u32 ag, .int .u32 ai, .slice Ac cl cc]] w (Tells (.bool false) w) := by
 have HB := Go.Lib.hid ((Below.refl _ w).alloc (Nat.le_refl _) (.cells #[.int .i64 h, .int .i64 o, vp, .int .u32 hp, .int .u32 md, .int .u32 pr, .int .u32 ag, .int .u32 ai, .slice Ac cl cc] 27))
 have HC := Go.Lib.hid (Box9.new w 27 (.int .i64 h) (.int .i64 o) (vp) (.int .u32 hp) (.int .u32 md) (.int .u32 pr) (.int .u32 ag) (.int .u32 ai) (.slice Ac cl cc))
 go_enter Tryz.func27, Tryz.ntmps27
 go_wp2
 have HKC := Go.Lib.hid (fun (W : World) (h : Below (w.alloc (.cells #[.int .i64 h, .int .i64 o, vp, .int .u32 hp, .int .u32 md, .int .u32 pr, .int .u32 ag, .int .u32 ai, .slice Ac cl cc] 27)).heap.size (w.alloc (.cells #[.int .i64 h, .int .i64 o, vp, .int .u32 hp, .int .u32 md, .int .u32 pr, .int .u32 ag, .int .u32 ai, .slice Ac cl cc] 27)) W) => (HC.out.keep h).cells)
 have HBW := Go.Lib.hid (fun (W : World) (h : Below (w.alloc (.cells #[.int .i64 h, .int .i64 o, vp, .int .u32 hp, .int .u32 md, .int .u32 pr, .int .u32 ag, .int .u32 ai, .slice Ac cl cc] 27)).heap.size (w.alloc (.cells #[.int .i64 h, .int .i64 o, vp, .int .u32 hp, .int .u32 md, .int .u32 pr, .int .u32 ag, .int .u32 ai, .slice Ac cl cc] 27)) W) => HB.out.trans (h.mono HB.out.size))
 have BW := Go.Lib.hid ((Below.refl (w.alloc (.cells #[.int .i64 h, .int .i64 o, vp, .int .u32 hp, .int .u32 md, .int .u32 pr, .int .u32 ag, .int .u32 ai, .slice Ac cl cc] 27)).heap.size (w.alloc (.cells #[.int .i64 h, .int .i64 o, vp, .int .u32 hp, .int .u32 md, .int .u32 pr, .int .u32 ag, .int .u32 ai, .slice Ac cl cc] 27))).drew)
 refine wp_region_noPanic ?_
 refine wp_region_held_drew (S := (fun w' => w'.cell? ⟨w.heap.size, 0, none⟩ = some (.int .i64 h) ∧ w'.cell? ⟨w.heap.size, 1, none⟩ = some (.int .i64 o) ∧ w'.cell? ⟨w.heap.size, 2, none⟩ = some (vp) ∧ w'.cell? ⟨w.heap.size, 3, none⟩ = some (.int .u32 hp) ∧ w'.cell? ⟨w.heap.size, 4, none⟩ = some (.int .u32 md) ∧ w'.cell? ⟨w.heap.size, 5, none⟩ = some (.int .u32 pr) ∧ w'.cell? ⟨w.heap.size, 6, none⟩ = some (.int .u32 ag) ∧ w'.cell? ⟨w.heap.size, 7, none⟩ = some (.int .u32 ai) ∧ w'.cell? ⟨w.heap.size, 8, none⟩ = some (.slice Ac cl cc))) (by kernel_rfl) (HKC.out _ BW.out) (fun hHeld => ?_)
 refine Take.tk 0 3 hHeld ?_
 refine Take.tk 1 4 hHeld ?_
 refine wpAnyH_ready (rs := [2]) (by kernel_rfl) (by simp) ?_
 refine AllReadyH.cons (o := ⟨some 5, .call { callee := .value (.func 68), args := #[.tmp 4], argTypes := #[27] }, 27, "attr.go:22", #[⟨1, .data⟩], none⟩) rfl (fun K hK => ?_) AllReadyH.nil
 go_simp
 go_at_call 68; refine (CN.out _ (HBW.out _ BW.out)).mono ?_; rintro e x ⟨rfl, hb⟩; replace BW := Go.Lib.hid (BW.out.trans (hb.mono BW.out.size)); clear hb
 (try go_wp2_with fail)
 refine hK.out _ _ (HKC.out _ BW.out) (fun hHeld1 => ?_)
 clear hK K
 try simp only [Act.put, List.setIfInBounds_toArray, List.set_cons_zero, List.set_cons_succ]
 refine wpAnyH_ready (rs := [3]) (by kernel_rfl) (by simp) ?_
 refine AllReadyH.cons (o := ⟨some 6, .call { callee := .value (.func 26), args := #[.tmp 3, .tmp 5], argTypes := #[27, 27] }, 4, "attr.go:22", #[⟨0, .data⟩, ⟨2, .data⟩, ⟨2, .chain⟩], none⟩) rfl (fun K hK => ?_) AllReadyH.nil
 go_simp
 go_at_call 26; refine (CM.out _ (HBW.out _ BW.out)).mono ?_; rintro e x ⟨rfl, hb⟩; replace BW := Go.Lib.hid (BW.out.trans (hb.mono BW.out.size)); clear hb
 (try go_wp2_with fail)
 refine hK.out _ _ (HKC.out _ BW.out) (fun hHeld2 => ?_)
 clear hK K
 try simp only [Act.put, List.setIfInBounds_toArray, List.set_cons_zero, List.set_cons_succ]
 refine Take.tk 4 7 hHeld2 ?_
 refine Take.tk 5 8 hHeld2 ?_
 refine Take.tk 6 9 hHeld2 ?_
 try simp only [Act.put, List.setIfInBounds_toArray, List.set_cons_zero, List.set_cons_succ]
 refine Take.tk 7 10 hHeld2 ?_
 refine Take.tk 8 11 hHeld2 ?_
 refine Take.tk 9 12 hHeld2 ?_
 try simp only [Act.put, List.setIfInBounds_toArray, List.set_cons_zero, List.set_cons_succ]
 refine Take.sk [(10, 13), (11, 14), (12, 15)] hHeld2 ?_
 try simp only [List.foldl_cons, List.foldl_nil, Act.put, List.setIfInBounds_toArray, List.set_cons_zero, List.set_cons_succ]
 refine Take.tk 13 16 hHeld2 ?_
 refine Take.tk 14 17 hHeld2 ?_
 refine Take.sk [(15, 18), (16, 19), (17, 20)] hHeld2 ?_
 try simp only [List.foldl_cons, List.foldl_nil, Act.put, List.setIfInBounds_toArray, List.set_cons_zero, List.set_cons_succ]
 refine Take.tk 18 21 hHeld2 ?_
 refine Take.tk 19 22 hHeld2 ?_
 refine Take.sk [(20, 23), (21, 24), (22, 25), (23, 26)] hHeld2 ?_
 try simp only [List.foldl_cons, List.foldl_nil, Act.put, List.setIfInBounds_toArray, List.set_cons_zero, List.set_cons_succ]
 refine Take.tk 24 27 hHeld2 ?_
 refine Take.tk 25 28 hHeld2 ?_
 refine Take.sk [(26, 29), (27, 30), (28, 31), (29, 32), (30, 33), (31, 34), (32, 35), (33, 36)] hHeld2 ?_
 try simp only [List.foldl_cons, List.foldl_nil, Act.put, List.setIfInBounds_toArray, List.set_cons_zero, List.set_cons_succ]
 refine Take.tk 34 37 hHeld2 ?_
 refine Take.tk 35 38 hHeld2 ?_
 refine Take.sk [(36, 39), (37, 40), (38, 41)] hHeld2 ?_
 try simp only [List.foldl_cons, List.foldl_nil, Act.put, List.setIfInBounds_toArray, List.set_cons_zero, List.set_cons_succ]
 refine Take.tk 39 42 hHeld2 ?_
 refine Take.tk 40 43 hHeld2 ?_
 refine Take.sk [(41, 44), (42, 45), (43, 46), (44, 47)] hHeld2 ?_
 try simp only [List.foldl_cons, List.foldl_nil, Act.put, List.setIfInBounds_toArray, List.set_cons_zero, List.set_cons_succ]
 refine Take.tk 45 48 hHeld2 ?_
 refine Take.tk 46 2 hHeld2 ?_
 refine wpAnyH_done (by kernel_rfl) ?_ _
 refine NoPanic.normal ?_
 go_wp2
 go_ret
 exact ⟨rfl, HBW.out _ BW.out⟩
set_option maxRecDepth 100000 in
set_option maxHeartbeats 8000000 in
theorem pgood_p (h o : Int) (vp : Value) (Ac : Option Addr) (cl cc : Nat) (hp md pr ag ai : Nat) (vN : Value) (w : World)
  (CN : Hid (∀ W, Below w.heap.size w W → Calls Tryz.prog 68 #[.agg #[.int .i64 h, .int .i64 o, vp, .int .u32 hp, .int .u32 md, .int .u32 pr, .int .u32 ag, .int .u32 ai, .slice Ac cl cc]] W (Tells vN W)))
  (CM : Hid (∀ W, Below w.heap.size w W → Calls Tryz.prog 26 #[.agg #[.int .i64 h, .int .i64 o, vp, .int .u32 hp, .int .u32 md, .int .u32 pr, .int .u32 ag, .int .u32 ai, .slice Ac cl cc], vN] W (Tells (.bool true) W)))
  (z0 : 0 ≤ o) (z1 : decide (o ≤ 2) = false) : Calls Tryz.prog 27 #[.agg #[.int .i64 h, .int .i64 o, vp, .int .u32 hp, .int .u32 md, .int .u32 pr, .int .u32 ag, .int .u32 ai, .slice Ac cl cc]] w (Tells (.bool false) w) := by
 have HB := Go.Lib.hid ((Below.refl _ w).alloc (Nat.le_refl _) (.cells #[.int .i64 h, .int .i64 o, vp, .int .u32 hp, .int .u32 md, .int .u32 pr, .int .u32 ag, .int .u32 ai, .slice Ac cl cc] 27))
 have HC := Go.Lib.hid (Box9.new w 27 (.int .i64 h) (.int .i64 o) (vp) (.int .u32 hp) (.int .u32 md) (.int .u32 pr) (.int .u32 ag) (.int .u32 ai) (.slice Ac cl cc))
 go_enter Tryz.func27, Tryz.ntmps27
 go_wp2
 have HKC := Go.Lib.hid (fun (W : World) (h : Below (w.alloc (.cells #[.int .i64 h, .int .i64 o, vp, .int .u32 hp, .int .u32 md, .int .u32 pr, .int .u32 ag, .int .u32 ai, .slice Ac cl cc] 27)).heap.size (w.alloc (.cells #[.int .i64 h, .int .i64 o, vp, .int .u32 hp, .int .u32 md, .int .u32 pr, .int .u32 ag, .int .u32 ai, .slice Ac cl cc] 27)) W) => (HC.out.keep h).cells)
 have HBW := Go.Lib.hid (fun (W : World) (h : Below (w.alloc (.cells #[.int .i64 h, .int .i64 o, vp, .int .u32 hp, .int .u32 md, .int .u32 pr, .int .u32 ag, .int .u32 ai, .slice Ac cl cc] 27)).heap.size (w.alloc (.cells #[.int .i64 h, .int .i64 o, vp, .int .u32 hp, .int .u32 md, .int .u32 pr, .int .u32 ag, .int .u32 ai, .slice Ac cl cc] 27)) W) => HB.out.trans (h.mono HB.out.size))
 have BW := Go.Lib.hid ((Below.refl (w.alloc (.cells #[.int .i64 h, .int .i64 o, vp, .int .u32 hp, .int .u32 md, .int .u32 pr, .int .u32 ag, .int .u32 ai, .slice Ac cl cc] 27)).heap.size (w.alloc (.cells #[.int .i64 h, .int .i64 o, vp, .int .u32 hp, .int .u32 md, .int .u32 pr, .int .u32 ag, .int .u32 ai, .slice Ac cl cc] 27))).drew)
 refine wp_region_noPanic ?_
 refine wp_region_held_drew (S := (fun w' => w'.cell? ⟨w.heap.size, 0, none⟩ = some (.int .i64 h) ∧ w'.cell? ⟨w.heap.size, 1, none⟩ = some (.int .i64 o) ∧ w'.cell? ⟨w.heap.size, 2, none⟩ = some (vp) ∧ w'.cell? ⟨w.heap.size, 3, none⟩ = some (.int .u32 hp) ∧ w'.cell? ⟨w.heap.size, 4, none⟩ = some (.int .u32 md) ∧ w'.cell? ⟨w.heap.size, 5, none⟩ = some (.int .u32 pr) ∧ w'.cell? ⟨w.heap.size, 6, none⟩ = some (.int .u32 ag) ∧ w'.cell? ⟨w.heap.size, 7, none⟩ = some (.int .u32 ai) ∧ w'.cell? ⟨w.heap.size, 8, none⟩ = some (.slice Ac cl cc))) (by kernel_rfl) (HKC.out _ BW.out) (fun hHeld => ?_)
 refine Take.tk 0 3 hHeld ?_
 refine Take.tk 1 4 hHeld ?_
 refine wpAnyH_ready (rs := [2]) (by kernel_rfl) (by simp) ?_
 refine AllReadyH.cons (o := ⟨some 5, .call { callee := .value (.func 68), args := #[.tmp 4], argTypes := #[27] }, 27, "attr.go:22", #[⟨1, .data⟩], none⟩) rfl (fun K hK => ?_) AllReadyH.nil
 go_simp
 go_at_call 68; refine (CN.out _ (HBW.out _ BW.out)).mono ?_; rintro e x ⟨rfl, hb⟩; replace BW := Go.Lib.hid (BW.out.trans (hb.mono BW.out.size)); clear hb
 (try go_wp2_with fail)
 refine hK.out _ _ (HKC.out _ BW.out) (fun hHeld1 => ?_)
 clear hK K
 try simp only [Act.put, List.setIfInBounds_toArray, List.set_cons_zero, List.set_cons_succ]
 refine wpAnyH_ready (rs := [3]) (by kernel_rfl) (by simp) ?_
 refine AllReadyH.cons (o := ⟨some 6, .call { callee := .value (.func 26), args := #[.tmp 3, .tmp 5], argTypes := #[27, 27] }, 4, "attr.go:22", #[⟨0, .data⟩, ⟨2, .data⟩, ⟨2, .chain⟩], none⟩) rfl (fun K hK => ?_) AllReadyH.nil
 go_simp
 go_at_call 26; refine (CM.out _ (HBW.out _ BW.out)).mono ?_; rintro e x ⟨rfl, hb⟩; replace BW := Go.Lib.hid (BW.out.trans (hb.mono BW.out.size)); clear hb
 (try go_wp2_with fail)
 refine hK.out _ _ (HKC.out _ BW.out) (fun hHeld2 => ?_)
 clear hK K
 try simp only [Act.put, List.setIfInBounds_toArray, List.set_cons_zero, List.set_cons_succ]
 refine Take.tk 4 7 hHeld2 ?_
 refine Take.tk 5 8 hHeld2 ?_
 refine Take.tk 6 9 hHeld2 ?_
 try simp only [Act.put, List.setIfInBounds_toArray, List.set_cons_zero, List.set_cons_succ]
 refine Take.tk 7 10 hHeld2 ?_
 refine Take.tk 8 11 hHeld2 ?_
 refine Take.tk 9 12 hHeld2 ?_
 try simp only [Act.put, List.setIfInBounds_toArray, List.set_cons_zero, List.set_cons_succ]
 refine Take.tk 10 13 hHeld2 ?_
 refine Take.tk 11 14 hHeld2 ?_
 refine Take.tk 12 15 hHeld2 ?_
 try simp only [Act.put, List.setIfInBounds_toArray, List.set_cons_zero, List.set_cons_succ]
 refine Take.tk 13 16 hHeld2 ?_
 refine Take.tk 14 17 hHeld2 ?_
 refine Take.sk [(15, 18), (16, 19), (17, 20)] hHeld2 ?_
 try simp only [List.foldl_cons, List.foldl_nil, Act.put, List.setIfInBounds_toArray, List.set_cons_zero, List.set_cons_succ]
 refine Take.tk 18 21 hHeld2 ?_
 refine Take.tk 19 22 hHeld2 ?_
 refine Take.sk [(20, 23), (21, 24), (22, 25), (23, 26)] hHeld2 ?_
 try simp only [List.foldl_cons, List.foldl_nil, Act.put, List.setIfInBounds_toArray, List.set_cons_zero, List.set_cons_succ]
 refine Take.tk 24 27 hHeld2 ?_
 refine Take.tk 25 28 hHeld2 ?_
 refine Take.sk [(26, 29), (27, 30), (28, 31), (29, 32), (30, 33), (31, 34), (32, 35), (33, 36)] hHeld2 ?_
 try simp only [List.foldl_cons, List.foldl_nil, Act.put, List.setIfInBounds_toArray, List.set_cons_zero, List.set_cons_succ]
 refine Take.tk 34 37 hHeld2 ?_
 refine Take.tk 35 38 hHeld2 ?_
 refine Take.sk [(36, 39), (37, 40), (38, 41)] hHeld2 ?_
 try simp only [List.foldl_cons, List.foldl_nil, Act.put, List.setIfInBounds_toArray, List.set_cons_zero, List.set_cons_succ]
 refine Take.tk 39 42 hHeld2 ?_
 refine Take.tk 40 43 hHeld2 ?_
 refine Take.sk [(41, 44), (42, 45), (43, 46), (44, 47)] hHeld2 ?_
 try simp only [List.foldl_cons, List.foldl_nil, Act.put, List.setIfInBounds_toArray, List.set_cons_zero, List.set_cons_succ]
 refine Take.tk 45 48 hHeld2 ?_
 refine Take.tk 46 2 hHeld2 ?_
 refine wpAnyH_done (by kernel_rfl) ?_ _
 refine NoPanic.normal ?_
 go_wp2
 go_ret
 exact ⟨rfl, HBW.out _ BW.out⟩
set_option maxRecDepth 100000 in
set_option maxHeartbeats 8000000 in
theorem pgood_w (h o : Int) (vp : Value) (Ac : Option Addr) (cl cc : Nat) (hp md pr ag ai : Nat) (vN : Value) (w : World)
  (CN : Hid (∀ W, Below w.heap.size w W → Calls Tryz.prog 68 #[.agg #[.int .i64 h, .int .i64 o, vp, .int .u32 hp, .int .u32 md, .int .u32 pr, .int .u32 ag, .int .u32 ai, .slice Ac cl cc]] W (Tells vN W)))
  (CM : Hid (∀ W, Below w.heap.size w W → Calls Tryz.prog 26 #[.agg #[.int .i64 h, .int .i64 o, vp, .int .u32 hp, .int .u32 md, .int .u32 pr, .int .u32 ag, .int .u32 ai, .slice Ac cl cc], vN] W (Tells (.bool true) W)))
  (CG : Hid (∀ W, Below w.heap.size w W → Calls Tryz.prog 69 #[vp] W (Tells (.bool false) W)))
  (z0 : 0 ≤ o) (z1 : o ≤ 2) : Calls Tryz.prog 27 #[.agg #[.int .i64 h, .int .i64 o, vp, .int .u32 hp, .int .u32 md, .int .u32 pr, .int .u32 ag, .int .u32 ai, .slice Ac cl cc]] w (Tells (.bool false) w) := by
 have HB := Go.Lib.hid ((Below.refl _ w).alloc (Nat.le_refl _) (.cells #[.int .i64 h, .int .i64 o, vp, .int .u32 hp, .int .u32 md, .int .u32 pr, .int .u32 ag, .int .u32 ai, .slice Ac cl cc] 27))
 have HC := Go.Lib.hid (Box9.new w 27 (.int .i64 h) (.int .i64 o) (vp) (.int .u32 hp) (.int .u32 md) (.int .u32 pr) (.int .u32 ag) (.int .u32 ai) (.slice Ac cl cc))
 go_enter Tryz.func27, Tryz.ntmps27
 go_wp2
 have HKC := Go.Lib.hid (fun (W : World) (h : Below (w.alloc (.cells #[.int .i64 h, .int .i64 o, vp, .int .u32 hp, .int .u32 md, .int .u32 pr, .int .u32 ag, .int .u32 ai, .slice Ac cl cc] 27)).heap.size (w.alloc (.cells #[.int .i64 h, .int .i64 o, vp, .int .u32 hp, .int .u32 md, .int .u32 pr, .int .u32 ag, .int .u32 ai, .slice Ac cl cc] 27)) W) => (HC.out.keep h).cells)
 have HBW := Go.Lib.hid (fun (W : World) (h : Below (w.alloc (.cells #[.int .i64 h, .int .i64 o, vp, .int .u32 hp, .int .u32 md, .int .u32 pr, .int .u32 ag, .int .u32 ai, .slice Ac cl cc] 27)).heap.size (w.alloc (.cells #[.int .i64 h, .int .i64 o, vp, .int .u32 hp, .int .u32 md, .int .u32 pr, .int .u32 ag, .int .u32 ai, .slice Ac cl cc] 27)) W) => HB.out.trans (h.mono HB.out.size))
 have BW := Go.Lib.hid ((Below.refl (w.alloc (.cells #[.int .i64 h, .int .i64 o, vp, .int .u32 hp, .int .u32 md, .int .u32 pr, .int .u32 ag, .int .u32 ai, .slice Ac cl cc] 27)).heap.size (w.alloc (.cells #[.int .i64 h, .int .i64 o, vp, .int .u32 hp, .int .u32 md, .int .u32 pr, .int .u32 ag, .int .u32 ai, .slice Ac cl cc] 27))).drew)
 refine wp_region_noPanic ?_
 refine wp_region_held_drew (S := (fun w' => w'.cell? ⟨w.heap.size, 0, none⟩ = some (.int .i64 h) ∧ w'.cell? ⟨w.heap.size, 1, none⟩ = some (.int .i64 o) ∧ w'.cell? ⟨w.heap.size, 2, none⟩ = some (vp) ∧ w'.cell? ⟨w.heap.size, 3, none⟩ = some (.int .u32 hp) ∧ w'.cell? ⟨w.heap.size, 4, none⟩ = some (.int .u32 md) ∧ w'.cell? ⟨w.heap.size, 5, none⟩ = some (.int .u32 pr) ∧ w'.cell? ⟨w.heap.size, 6, none⟩ = some (.int .u32 ag) ∧ w'.cell? ⟨w.heap.size, 7, none⟩ = some (.int .u32 ai) ∧ w'.cell? ⟨w.heap.size, 8, none⟩ = some (.slice Ac cl cc))) (by kernel_rfl) (HKC.out _ BW.out) (fun hHeld => ?_)
 refine Take.tk 0 3 hHeld ?_
 refine Take.tk 1 4 hHeld ?_
 refine wpAnyH_ready (rs := [2]) (by kernel_rfl) (by simp) ?_
 refine AllReadyH.cons (o := ⟨some 5, .call { callee := .value (.func 68), args := #[.tmp 4], argTypes := #[27] }, 27, "attr.go:22", #[⟨1, .data⟩], none⟩) rfl (fun K hK => ?_) AllReadyH.nil
 go_simp
 go_at_call 68; refine (CN.out _ (HBW.out _ BW.out)).mono ?_; rintro e x ⟨rfl, hb⟩; replace BW := Go.Lib.hid (BW.out.trans (hb.mono BW.out.size)); clear hb
 (try go_wp2_with fail)
 refine hK.out _ _ (HKC.out _ BW.out) (fun hHeld1 => ?_)
 clear hK K
 try simp only [Act.put, List.setIfInBounds_toArray, List.set_cons_zero, List.set_cons_succ]
 refine wpAnyH_ready (rs := [3]) (by kernel_rfl) (by simp) ?_
 refine AllReadyH.cons (o := ⟨some 6, .call { callee := .value (.func 26), args := #[.tmp 3, .tmp 5], argTypes := #[27, 27] }, 4, "attr.go:22", #[⟨0, .data⟩, ⟨2, .data⟩, ⟨2, .chain⟩], none⟩) rfl (fun K hK => ?_) AllReadyH.nil
 go_simp
 go_at_call 26; refine (CM.out _ (HBW.out _ BW.out)).mono ?_; rintro e x ⟨rfl, hb⟩; replace BW := Go.Lib.hid (BW.out.trans (hb.mono BW.out.size)); clear hb
 (try go_wp2_with fail)
 refine hK.out _ _ (HKC.out _ BW.out) (fun hHeld2 => ?_)
 clear hK K
 try simp only [Act.put, List.setIfInBounds_toArray, List.set_cons_zero, List.set_cons_succ]
 refine Take.tk 4 7 hHeld2 ?_
 refine Take.tk 5 8 hHeld2 ?_
 refine Take.tk 6 9 hHeld2 ?_
 try simp only [Act.put, List.setIfInBounds_toArray, List.set_cons_zero, List.set_cons_succ]
 refine Take.tk 7 10 hHeld2 ?_
 refine Take.tk 8 11 hHeld2 ?_
 refine Take.tk 9 12 hHeld2 ?_
 try simp only [Act.put, List.setIfInBounds_toArray, List.set_cons_zero, List.set_cons_succ]
 refine Take.tk 10 13 hHeld2 ?_
 refine Take.tk 11 14 hHeld2 ?_
 refine Take.tk 12 15 hHeld2 ?_
 try simp only [Act.put, List.setIfInBounds_toArray, List.set_cons_zero, List.set_cons_succ]
 refine Take.tk 13 16 hHeld2 ?_
 refine Take.tk 14 17 hHeld2 ?_
 refine Take.tk 15 18 hHeld2 ?_
 try simp only [Act.put, List.setIfInBounds_toArray, List.set_cons_zero, List.set_cons_succ]
 refine Take.tk 16 19 hHeld2 ?_
 refine wpAnyH_ready (rs := [17]) (by kernel_rfl) (by simp) ?_
 refine AllReadyH.cons (o := ⟨some 20, .call { callee := .value (.func 69), args := #[.tmp 19], argTypes := #[23] }, 4, "attr.go:24", #[⟨16, .data⟩, ⟨14, .chain⟩, ⟨14, .guard⟩], some (14, true)⟩) rfl (fun K hK => ?_) AllReadyH.nil
 go_simp
 go_at_call 69; refine (CG.out _ (HBW.out _ BW.out)).mono ?_; rintro e x ⟨rfl, hb⟩; replace BW := Go.Lib.hid (BW.out.trans (hb.mono BW.out.size)); clear hb
 (try go_wp2_with fail)
 refine hK.out _ _ (HKC.out _ BW.out) (fun hHeld3 => ?_)
 clear hK K
 try simp only [Act.put, List.setIfInBounds_toArray, List.set_cons_zero, List.set_cons_succ]
 refine Take.tk 18 21 hHeld3 ?_
 refine Take.tk 19 22 hHeld3 ?_
 refine Take.sk [(20, 23), (21, 24), (22, 25), (23, 26)] hHeld3 ?_
 try simp only [List.foldl_cons, List.foldl_nil, Act.put, List.setIfInBounds_toArray, List.set_cons_zero, List.set_cons_succ]
 refine Take.tk 24 27 hHeld3 ?_
 refine Take.tk 25 28 hHeld3 ?_
 refine Take.sk [(26, 29), (27, 30), (28, 31), (29, 32), (30, 33), (31, 34), (32, 35), (33, 36)] hHeld3 ?_
 try simp only [List.foldl_cons, List.foldl_nil, Act.put, List.setIfInBounds_toArray, List.set_cons_zero, List.set_cons_succ]
 refine Take.tk 34 37 hHeld3 ?_
 refine Take.tk 35 38 hHeld3 ?_
 refine Take.sk [(36, 39), (37, 40), (38, 41)] hHeld3 ?_
 try simp only [List.foldl_cons, List.foldl_nil, Act.put, List.setIfInBounds_toArray, List.set_cons_zero, List.set_cons_succ]
 refine Take.tk 39 42 hHeld3 ?_
 refine Take.tk 40 43 hHeld3 ?_
 refine Take.sk [(41, 44), (42, 45), (43, 46), (44, 47)] hHeld3 ?_
 try simp only [List.foldl_cons, List.foldl_nil, Act.put, List.setIfInBounds_toArray, List.set_cons_zero, List.set_cons_succ]
 refine Take.tk 45 48 hHeld3 ?_
 refine Take.tk 46 2 hHeld3 ?_
 refine wpAnyH_done (by kernel_rfl) ?_ _
 refine NoPanic.normal ?_
 go_wp2
 go_ret
 exact ⟨rfl, HBW.out _ BW.out⟩
set_option maxRecDepth 100000 in
set_option maxHeartbeats 8000000 in
theorem pgood_u (h o : Int) (vp : Value) (Ac : Option Addr) (cl cc : Nat) (hp md pr ag ai : Nat) (vN : Value) (w : World) (n : Nat)
  (CN : Hid (∀ W, Below w.heap.size w W → Calls Tryz.prog 68 #[.agg #[.int .i64 h, .int .i64 o, vp, .int .u32 hp, .int .u32 md, .int .u32 pr, .int .u32 ag, .int .u32 ai, .slice Ac cl cc]] W (Tells vN W)))
  (CM : Hid (∀ W, Below w.heap.size w W → Calls Tryz.prog 26 #[.agg #[.int .i64 h, .int .i64 o, vp, .int .u32 hp, .int .u32 md, .int .u32 pr, .int .u32 ag, .int .u32 ai, .slice Ac cl cc], vN] W (Tells (.bool true) W)))
  (CG : Hid (∀ W, Below w.heap.size w W → Calls Tryz.prog 69 #[vp] W (Tells (.bool true) W)))
  (CU : Hid (∀ W, Below w.heap.size w W → Calls Tryz.prog 70 #[vp] W (Tells (.int .i64 n) W)))
  (z0 : 0 ≤ o) (z1 : o ≤ 2) (z3 : decide ((n : Int) ≤ 2000) = false) : Calls Tryz.prog 27 #[.agg #[.int .i64 h, .int .i64 o, vp, .int .u32 hp, .int .u32 md, .int .u32 pr, .int .u32 ag, .int .u32 ai, .slice Ac cl cc]] w (Tells (.bool false) w) := by
 have HB := Go.Lib.hid ((Below.refl _ w).alloc (Nat.le_refl _) (.cells #[.int .i64 h, .int .i64 o, vp, .int .u32 hp, .int .u32 md, .int .u32 pr, .int .u32 ag, .int .u32 ai, .slice Ac cl cc] 27))
 have HC := Go.Lib.hid (Box9.new w 27 (.int .i64 h) (.int .i64 o) (vp) (.int .u32 hp) (.int .u32 md) (.int .u32 pr) (.int .u32 ag) (.int .u32 ai) (.slice Ac cl cc))
 go_enter Tryz.func27, Tryz.ntmps27
 go_wp2
 have HKC := Go.Lib.hid (fun (W : World) (h : Below (w.alloc (.cells #[.int .i64 h, .int .i64 o, vp, .int .u32 hp, .int .u32 md, .int .u32 pr, .int .u32 ag, .int .u32 ai, .slice Ac cl cc] 27)).heap.size (w.alloc (.cells #[.int .i64 h, .int .i64 o, vp, .int .u32 hp, .int .u32 md, .int .u32 pr, .int .u32 ag, .int .u32 ai, .slice Ac cl cc] 27)) W) => (HC.out.keep h).cells)
 have HBW := Go.Lib.hid (fun (W : World) (h : Below (w.alloc (.cells #[.int .i64 h, .int .i64 o, vp, .int .u32 hp, .int .u32 md, .int .u32 pr, .int .u32 ag, .int .u32 ai, .slice Ac cl cc] 27)).heap.size (w.alloc (.cells #[.int .i64 h, .int .i64 o, vp, .int .u32 hp, .int .u32 md, .int .u32 pr, .int .u32 ag, .int .u32 ai, .slice Ac cl cc] 27)) W) => HB.out.trans (h.mono HB.out.size))
 have BW := Go.Lib.hid ((Below.refl (w.alloc (.cells #[.int .i64 h, .int .i64 o, vp, .int .u32 hp, .int .u32 md, .int .u32 pr, .int .u32 ag, .int .u32 ai, .slice Ac cl cc] 27)).heap.size (w.alloc (.cells #[.int .i64 h, .int .i64 o, vp, .int .u32 hp, .int .u32 md, .int .u32 pr, .int .u32 ag, .int .u32 ai, .slice Ac cl cc] 27))).drew)
 refine wp_region_noPanic ?_
 refine wp_region_held_drew (S := (fun w' => w'.cell? ⟨w.heap.size, 0, none⟩ = some (.int .i64 h) ∧ w'.cell? ⟨w.heap.size, 1, none⟩ = some (.int .i64 o) ∧ w'.cell? ⟨w.heap.size, 2, none⟩ = some (vp) ∧ w'.cell? ⟨w.heap.size, 3, none⟩ = some (.int .u32 hp) ∧ w'.cell? ⟨w.heap.size, 4, none⟩ = some (.int .u32 md) ∧ w'.cell? ⟨w.heap.size, 5, none⟩ = some (.int .u32 pr) ∧ w'.cell? ⟨w.heap.size, 6, none⟩ = some (.int .u32 ag) ∧ w'.cell? ⟨w.heap.size, 7, none⟩ = some (.int .u32 ai) ∧ w'.cell? ⟨w.heap.size, 8, none⟩ = some (.slice Ac cl cc))) (by kernel_rfl) (HKC.out _ BW.out) (fun hHeld => ?_)
 refine Take.tk 0 3 hHeld ?_
 refine Take.tk 1 4 hHeld ?_
 refine wpAnyH_ready (rs := [2]) (by kernel_rfl) (by simp) ?_
 refine AllReadyH.cons (o := ⟨some 5, .call { callee := .value (.func 68), args := #[.tmp 4], argTypes := #[27] }, 27, "attr.go:22", #[⟨1, .data⟩], none⟩) rfl (fun K hK => ?_) AllReadyH.nil
 go_simp
 go_at_call 68; refine (CN.out _ (HBW.out _ BW.out)).mono ?_; rintro e x ⟨rfl, hb⟩; replace BW := Go.Lib.hid (BW.out.trans (hb.mono BW.out.size)); clear hb
 (try go_wp2_with fail)
 refine hK.out _ _ (HKC.out _ BW.out) (fun hHeld1 => ?_)
 clear hK K
 try simp only [Act.put, List.setIfInBounds_toArray, List.set_cons_zero, List.set_cons_succ]
 refine wpAnyH_ready (rs := [3]) (by kernel_rfl) (by simp) ?_
 refine AllReadyH.cons (o := ⟨some 6, .call { callee := .value (.func 26), args := #[.tmp 3, .tmp 5], argTypes := #[27, 27] }, 4, "attr.go:22", #[⟨0, .data⟩, ⟨2, .data⟩, ⟨2, .chain⟩], none⟩) rfl (fun K hK => ?_) AllReadyH.nil
 go_simp
 go_at_call 26; refine (CM.out _ (HBW.out _ BW.out)).mono ?_; rintro e x ⟨rfl, hb⟩; replace BW := Go.Lib.hid (BW.out.trans (hb.mono BW.out.size)); clear hb
 (try go_wp2_with fail)
 refine hK.out _ _ (HKC.out _ BW.out) (fun hHeld2 => ?_)
 clear hK K
 try simp only [Act.put, List.setIfInBounds_toArray, List.set_cons_zero, List.set_cons_succ]
 refine Take.tk 4 7 hHeld2 ?_
 refine Take.tk 5 8 hHeld2 ?_
 refine Take.tk 6 9 hHeld2 ?_
 try simp only [Act.put, List.setIfInBounds_toArray, List.set_cons_zero, List.set_cons_succ]
 refine Take.tk 7 10 hHeld2 ?_
 refine Take.tk 8 11 hHeld2 ?_
 refine Take.tk 9 12 hHeld2 ?_
 try simp only [Act.put, List.setIfInBounds_toArray, List.set_cons_zero, List.set_cons_succ]
 refine Take.tk 10 13 hHeld2 ?_
 refine Take.tk 11 14 hHeld2 ?_
 refine Take.tk 12 15 hHeld2 ?_
 try simp only [Act.put, List.setIfInBounds_toArray, List.set_cons_zero, List.set_cons_succ]
 refine Take.tk 13 16 hHeld2 ?_
 refine Take.tk 14 17 hHeld2 ?_
 refine Take.tk 15 18 hHeld2 ?_
 try simp only [Act.put, List.setIfInBounds_toArray, List.set_cons_zero, List.set_cons_succ]
 refine Take.tk 16 19 hHeld2 ?_
 refine wpAnyH_ready (rs := [17]) (by kernel_rfl) (by simp) ?_
 refine AllReadyH.cons (o := ⟨some 20, .call { callee := .value (.func 69), args := #[.tmp 19], argTypes := #[23] }, 4, "attr.go:24", #[⟨16, .data⟩, ⟨14, .chain⟩, ⟨14, .guard⟩], some (14, true)⟩) rfl (fun K hK => ?_) AllReadyH.nil
 go_simp
 go_at_call 69; refine (CG.out _ (HBW.out _ BW.out)).mono ?_; rintro e x ⟨rfl, hb⟩; replace BW := Go.Lib.hid (BW.out.trans (hb.mono BW.out.size)); clear hb
 (try go_wp2_with fail)
 refine hK.out _ _ (HKC.out _ BW.out) (fun hHeld3 => ?_)
 clear hK K
 try simp only [Act.put, List.setIfInBounds_toArray, List.set_cons_zero, List.set_cons_succ]
 refine Take.tk 18 21 hHeld3 ?_
 refine Take.tk 19 22 hHeld3 ?_
 refine Take.tk 20 23 hHeld3 ?_
 try simp only [Act.put, List.setIfInBounds_toArray, List.set_cons_zero, List.set_cons_succ]
 refine Take.tk 21 24 hHeld3 ?_
 refine wpAnyH_ready (rs := [22]) (by kernel_rfl) (by simp) ?_
 refine AllReadyH.cons (o := ⟨some 25, .call { callee := .value (.func 70), args := #[.tmp 24], argTypes := #[23] }, 3, "attr.go:24", #[⟨21, .data⟩, ⟨19, .chain⟩, ⟨19, .guard⟩], some (19, true)⟩) rfl (fun K hK => ?_) AllReadyH.nil
 go_simp
 go_at_call 70; refine (CU.out _ (HBW.out _ BW.out)).mono ?_; rintro e x ⟨rfl, hb⟩; replace BW := Go.Lib.hid (BW.out.trans (hb.mono BW.out.size)); clear hb
 (try go_wp2_with fail)
 refine hK.out _ _ (HKC.out _ BW.out) (fun hHeld4 => ?_)
 clear hK K
 try simp only [Act.put, List.setIfInBounds_toArray, List.set_cons_zero, List.set_cons_succ]
 refine Take.tk 23 26 hHeld4 ?_
 refine Take.tk 24 27 hHeld4 ?_
 refine Take.tk 25 28 hHeld4 ?_
 try simp only [Act.put, List.setIfInBounds_toArray, List.set_cons_zero, List.set_cons_succ]
 refine Take.sk [(26, 29), (27, 30), (28, 31), (29, 32), (30, 33), (31, 34), (32, 35), (33, 36)] hHeld4 ?_
 try simp only [List.foldl_cons, List.foldl_nil, Act.put, List.setIfInBounds_toArray, List.set_cons_zero, List.set_cons_succ]
 refine Take.tk 34 37 hHeld4 ?_
 refine Take.tk 35 38 hHeld4 ?_
 refine Take.sk [(36, 39), (37, 40), (38, 41)] hHeld4 ?_
 try simp only [List.foldl_cons, List.foldl_nil, Act.put, List.setIfInBounds_toArray, List.set_cons_zero, List.set_cons_succ]
 refine Take.tk 39 42 hHeld4 ?_
 refine Take.tk 40 43 hHeld4 ?_
 refine Take.sk [(41, 44), (42, 45), (43, 46), (44, 47)] hHeld4 ?_
 try simp only [List.foldl_cons, List.foldl_nil, Act.put, List.setIfInBounds_toArray, List.set_cons_zero, List.set_cons_succ]
 refine Take.tk 45 48 hHeld4 ?_
 refine Take.tk 46 2 hHeld4 ?_
 refine wpAnyH_done (by kernel_rfl) ?_ _
 refine NoPanic.normal ?_
 go_wp2
 go_ret
 exact ⟨rfl, HBW.out _ BW.out⟩
end Go.Proofs.YtlhdjdnflpilbaaGreatDoor.Att
namespace Go.Proofs.YtlhdjdnflpilbaaGreatDoor.Att
open Go.RowKit Mem Segm Rise
set_option maxRecDepth 100000 in
set_option maxHeartbeats 8000000 in
theorem pgood_x (h o : Int) (vp : Value) (Ac : Option Addr) (cl cc : Nat) (hp md pr ag ai : Nat) (vN : Value) (w : World) (n : Nat)
  (CN : Hid (∀ W, Below w.heap.size w W → Calls Tryz.prog 68 #[.agg #[.int .i64 h, .int .i64 o, vp, .int .u32 hp, .int .u32 md, .int .u32 pr, .int .u32 ag, .int .u32 ai, .slice Ac cl cc]] W (Tells vN W)))
  (CM : Hid (∀ W, Below w.heap.size w W → Calls Tryz.prog 26 #[.agg #[.int .i64 h, .int .i64 o, vp, .int .u32 hp, .int .u32 md, .int .u32 pr, .int .u32 ag, .int .u32 ai, .slice Ac cl cc], vN] W (Tells (.bool true) W)))
  (CG : Hid (∀ W, Below w.heap.size w W → Calls Tryz.prog 69 #[vp] W (Tells (.bool true) W)))
  (CU : Hid (∀ W, Below w.heap.size w W → Calls Tryz.prog 70 #[vp] W (Tells (.int .i64 n) W)))
  (CH : Hid (∀ W, Calls Tryz.prog 58 #[.agg #[.int .i64 h, .int .i64 o, vp, .int .u32 hp, .int .u32 md, .int .u32 pr, .int .u32 ag, .int .u32 ai, .slice Ac cl cc], .int .i64 3] W (Tells (.bool true) W)))
  (CP : Hid (∀ W, Calls Tryz.prog 71 #[.int .u32 hp] W (Tells (.bool false) W)))
  (z0 : 0 ≤ o) (z1 : o ≤ 2) (z3 : (n : Int) ≤ 2000) : Calls Tryz.prog 27 #[.agg #[.int .i64 h, .int .i64 o, vp, .int .u32 hp, .int .u32 md, .int .u32 pr, .int .u32 ag, .int .u32 ai, .slice Ac cl cc]] w (Tells (.bool false) w) := by
 have HB := Go.Lib.hid ((Below.refl _ w).alloc (Nat.le_refl _) (.cells #[.int .i64 h, .int .i64 o, vp, .int .u32 hp, .int .u32 md, .int .u32 pr, .int .u32 ag, .int .u32 ai, .slice Ac cl cc] 27))
 have HC := Go.Lib.hid (Box9.new w 27 (.int .i64 h) (.int .i64 o) (vp) (.int .u32 hp) (.int .u32 md) (.int .u32 pr) (.int .u32 ag) (.int .u32 ai) (.slice Ac cl cc))
 go_enter Tryz.func27, Tryz.ntmps27
 go_wp2
 have HKC := Go.Lib.hid (fun (W : World) (h : Below (w.alloc (.cells #[.int .i64 h, .int .i64 o, vp, .int .u32 hp, .int .u32 md, .int .u32 pr, .int .u32 ag, .int .u32 ai, .slice Ac cl cc] 27)).heap.size (w.alloc (.cells #[.int .i64 h, .int .i64 o, vp, .int .u32 hp, .int .u32 md, .int .u32 pr, .int .u32 ag, .int .u32 ai, .slice Ac cl cc] 27)) W) => (HC.out.keep h).cells)
 have HBW := Go.Lib.hid (fun (W : World) (h : Below (w.alloc (.cells #[.int .i64 h, .int .i64 o, vp, .int .u32 hp, .int .u32 md, .int .u32 pr, .int .u32 ag, .int .u32 ai, .slice Ac cl cc] 27)).heap.size (w.alloc (.cells #[.int .i64 h, .int .i64 o, vp, .int .u32 hp, .int .u32 md, .int .u32 pr, .int .u32 ag, .int .u32 ai, .slice Ac cl cc] 27)) W) => HB.out.trans (h.mono HB.out.size))
 have BW := Go.Lib.hid ((Below.refl (w.alloc (.cells #[.int .i64 h, .int .i64 o, vp, .int .u32 hp, .int .u32 md, .int .u32 pr, .int .u32 ag, .int .u32 ai, .slice Ac cl cc] 27)).heap.size (w.alloc (.cells #[.int .i64 h, .int .i64 o, vp, .int .u32 hp, .int .u32 md, .int .u32 pr, .int .u32 ag, .int .u32 ai, .slice Ac cl cc] 27))).drew)
 refine wp_region_noPanic ?_
 refine wp_region_held_drew (S := (fun w' => w'.cell? ⟨w.heap.size, 0, none⟩ = some (.int .i64 h) ∧ w'.cell? ⟨w.heap.size, 1, none⟩ = some (.int .i64 o) ∧ w'.cell? ⟨w.heap.size, 2, none⟩ = some (vp) ∧ w'.cell? ⟨w.heap.size, 3, none⟩ = some (.int .u32 hp) ∧ w'.cell? ⟨w.heap.size, 4, none⟩ = some (.int .u32 md) ∧ w'.cell? ⟨w.heap.size, 5, none⟩ = some (.int .u32 pr) ∧ w'.cell? ⟨w.heap.size, 6, none⟩ = some (.int .u32 ag) ∧ w'.cell? ⟨w.heap.size, 7, none⟩ = some (.int .u32 ai) ∧ w'.cell? ⟨w.heap.size, 8, none⟩ = some (.slice Ac cl cc))) (by kernel_rfl) (HKC.out _ BW.out) (fun hHeld => ?_)
 refine Take.tk 0 3 hHeld ?_
 refine Take.tk 1 4 hHeld ?_
 refine wpAnyH_ready (rs := [2]) (by kernel_rfl) (by simp) ?_
 refine AllReadyH.cons (o := ⟨some 5, .call { callee := .value (.func 68), args := #[.tmp 4], argTypes := #[27] }, 27, "attr.go:22", #[⟨1, .data⟩], none⟩) rfl (fun K hK => ?_) AllReadyH.nil
 go_simp
 go_at_call 68; refine (CN.out _ (HBW.out _ BW.out)).mono ?_; rintro e x ⟨rfl, hb⟩; replace BW := Go.Lib.hid (BW.out.trans (hb.mono BW.out.size)); clear hb
 (try go_wp2_with fail)
 refine hK.out _ _ (HKC.out _ BW.out) (fun hHeld1 => ?_)
 clear hK K
 try simp only [Act.put, List.setIfInBounds_toArray, List.set_cons_zero, List.set_cons_succ]
 refine wpAnyH_ready (rs := [3]) (by kernel_rfl) (by simp) ?_
 refine AllReadyH.cons (o := ⟨some 6, .call { callee := .value (.func 26), args := #[.tmp 3, .tmp 5], argTypes := #[27, 27] }, 4, "attr.go:22", #[⟨0, .data⟩, ⟨2, .data⟩, ⟨2, .chain⟩], none⟩) rfl (fun K hK => ?_) AllReadyH.nil
 go_simp
 go_at_call 26; refine (CM.out _ (HBW.out _ BW.out)).mono ?_; rintro e x ⟨rfl, hb⟩; replace BW := Go.Lib.hid (BW.out.trans (hb.mono BW.out.size)); clear hb
 (try go_wp2_with fail)
 refine hK.out _ _ (HKC.out _ BW.out) (fun hHeld2 => ?_)
 clear hK K
 try simp only [Act.put, List.setIfInBounds_toArray, List.set_cons_zero, List.set_cons_succ]
 refine Take.tk 4 7 hHeld2 ?_
 refine Take.tk 5 8 hHeld2 ?_
 refine Take.tk 6 9 hHeld2 ?_
 try simp only [Act.put, List.setIfInBounds_toArray, List.set_cons_zero, List.set_cons_succ]
 refine Take.tk 7 10 hHeld2 ?_
 refine Take.tk 8 11 hHeld2 ?_
 refine Take.tk 9 12 hHeld2 ?_
 try simp only [Act.put, List.setIfInBounds_toArray, List.set_cons_zero, List.set_cons_succ]
 refine Take.tk 10 13 hHeld2 ?_
 refine Take.tk 11 14 hHeld2 ?_
 refine Take.tk 12 15 hHeld2 ?_
 try simp only [Act.put, List.setIfInBounds_toArray, List.set_cons_zero, List.set_cons_succ]
 refine Take.tk 13 16 hHeld2 ?_
 refine Take.tk 14 17 hHeld2 ?_
 refine Take.tk 15 18 hHeld2 ?_
 try simp only [Act.put, List.setIfInBounds_toArray, List.set_cons_zero, List.set_cons_succ]
 refine Take.tk 16 19 hHeld2 ?_
 refine wpAnyH_ready (rs := [17]) (by kernel_rfl) (by simp) ?_
 refine AllReadyH.cons (o := ⟨some 20, .call { callee := .value (.func 69), args := #[.tmp 19], argTypes := #[23] }, 4, "attr.go:24", #[⟨16, .data⟩, ⟨14, .chain⟩, ⟨14, .guard⟩], some (14, true)⟩) rfl (fun K hK => ?_) AllReadyH.nil
 go_simp
 go_at_call 69; refine (CG.out _ (HBW.out _ BW.out)).mono ?_; rintro e x ⟨rfl, hb⟩; replace BW := Go.Lib.hid (BW.out.trans (hb.mono BW.out.size)); clear hb
 (try go_wp2_with fail)
 refine hK.out _ _ (HKC.out _ BW.out) (fun hHeld3 => ?_)
 clear hK K
 try simp only [Act.put, List.setIfInBounds_toArray, List.set_cons_zero, List.set_cons_succ]
 refine Take.tk 18 21 hHeld3 ?_
 refine Take.tk 19 22 hHeld3 ?_
 refine Take.tk 20 23 hHeld3 ?_
 try simp only [Act.put, List.setIfInBounds_toArray, List.set_cons_zero, List.set_cons_succ]
 refine Take.tk 21 24 hHeld3 ?_
 refine wpAnyH_ready (rs := [22]) (by kernel_rfl) (by simp) ?_
 refine AllReadyH.cons (o := ⟨some 25, .call { callee := .value (.func 70), args := #[.tmp 24], argTypes := #[23] }, 3, "attr.go:24", #[⟨21, .data⟩, ⟨19, .chain⟩, ⟨19, .guard⟩], some (19, true)⟩) rfl (fun K hK => ?_) AllReadyH.nil
 go_simp
 go_at_call 70; refine (CU.out _ (HBW.out _ BW.out)).mono ?_; rintro e x ⟨rfl, hb⟩; replace BW := Go.Lib.hid (BW.out.trans (hb.mono BW.out.size)); clear hb
 (try go_wp2_with fail)
 refine hK.out _ _ (HKC.out _ BW.out) (fun hHeld4 => ?_)
 clear hK K
 try simp only [Act.put, List.setIfInBounds_toArray, List.set_cons_zero, List.set_cons_succ]
 refine Take.tk 23 26 hHeld4 ?_
 refine Take.tk 24 27 hHeld4 ?_
 refine Take.tk 25 28 hHeld4 ?_
 try simp only [Act.put, List.setIfInBounds_toArray, List.set_cons_zero, List.set_cons_succ]
 refine Take.tk 26 29 hHeld4 ?_
 refine wpAnyH_ready (rs := [27]) (by kernel_rfl) (by simp) ?_
 refine AllReadyH.cons (o := ⟨some 30, .call { callee := .value (.func 58), args := #[.tmp 29, .const (.int .i64 3)], argTypes := #[27, 3] }, 4, "attr.go:25", #[⟨26, .data⟩, ⟨25, .chain⟩, ⟨25, .guard⟩], some (25, true)⟩) rfl (fun K hK => ?_) AllReadyH.nil
 go_simp
 go_at_call 58; refine (CH.out _).mono ?_; rintro e x ⟨rfl, hb⟩; replace BW := Go.Lib.hid (BW.out.trans (hb.mono BW.out.size)); clear hb
 (try go_wp2_with fail)
 refine hK.out _ _ (HKC.out _ BW.out) (fun hHeld5 => ?_)
 clear hK K
 try simp only [Act.put, List.setIfInBounds_toArray, List.set_cons_zero, List.set_cons_succ]
 refine Take.tk 28 31 hHeld5 ?_
 refine Take.tk 29 32 hHeld5 ?_
 refine Take.tk 30 33 hHeld5 ?_
 try simp only [Act.put, List.setIfInBounds_toArray, List.set_cons_zero, List.set_cons_succ]
 refine Take.tk 31 34 hHeld5 ?_
 refine wpAnyH_ready (rs := [32]) (by kernel_rfl) (by simp) ?_
 refine AllReadyH.cons (o := ⟨some 35, .call { callee := .value (.func 71), args := #[.tmp 34], argTypes := #[24] }, 4, "attr.go:25", #[⟨31, .data⟩, ⟨29, .chain⟩, ⟨29, .guard⟩], some (29, false)⟩) rfl (fun K hK => ?_) AllReadyH.nil
 go_simp
 go_at_call 71; refine (CP.out _).mono ?_; rintro e x ⟨rfl, hb⟩; replace BW := Go.Lib.hid (BW.out.trans (hb.mono BW.out.size)); clear hb
 (try go_wp2_with fail)
 refine hK.out _ _ (HKC.out _ BW.out) (fun hHeld6 => ?_)
 clear hK K
 try simp only [Act.put, List.setIfInBounds_toArray, List.set_cons_zero, List.set_cons_succ]
 refine Take.tk 33 36 hHeld6 ?_
 refine Take.tk 34 37 hHeld6 ?_
 refine Take.tk 35 38 hHeld6 ?_
 try simp only [Act.put, List.setIfInBounds_toArray, List.set_cons_zero, List.set_cons_succ]
 refine Take.sk [(36, 39), (37, 40), (38, 41)] hHeld6 ?_
 try simp only [List.foldl_cons, List.foldl_nil, Act.put, List.setIfInBounds_toArray, List.set_cons_zero, List.set_cons_succ]
 refine Take.tk 39 42 hHeld6 ?_
 refine Take.tk 40 43 hHeld6 ?_
 refine Take.sk [(41, 44), (42, 45), (43, 46), (44, 47)] hHeld6 ?_
 try simp only [List.foldl_cons, List.foldl_nil, Act.put, List.setIfInBounds_toArray, List.set_cons_zero, List.set_cons_succ]
 refine Take.tk 45 48 hHeld6 ?_
 refine Take.tk 46 2 hHeld6 ?_
 refine wpAnyH_done (by kernel_rfl) ?_ _
 refine NoPanic.normal ?_
 go_wp2
 go_ret
 exact ⟨rfl, HBW.out _ BW.out⟩
set_option maxRecDepth 100000 in
set_option maxHeartbeats 8000000 in
theorem pgood_h (h o : Int) (vp : Value) (Ac : Option Addr) (cl cc : Nat) (hp md pr ag ai : Nat) (vN : Value) (w : World) (n : Nat)
  (CN : Hid (∀ W, Below w.heap.size w W → Calls Tryz.prog 68 #[.agg #[.int .i64 h, .int .i64 o, vp, .int .u32 hp, .int .u32 md, .int .u32 pr, .int .u32 ag, .int .u32 ai, .slice Ac cl cc]] W (Tells vN W)))
  (CM : Hid (∀ W, Below w.heap.size w W → Calls Tryz.prog 26 #[.agg #[.int .i64 h, .int .i64 o, vp, .int .u32 hp, .int .u32 md, .int .u32 pr, .int .u32 ag, .int .u32 ai, .slice Ac cl cc], vN] W (Tells (.bool true) W)))
  (CG : Hid (∀ W, Below w.heap.size w W → Calls Tryz.prog 69 #[vp] W (Tells (.bool true) W)))
  (CU : Hid (∀ W, Below w.heap.size w W → Calls Tryz.prog 70 #[vp] W (Tells (.int .i64 n) W)))
  (CH : Hid (∀ W, Calls Tryz.prog 58 #[.agg #[.int .i64 h, .int .i64 o, vp, .int .u32 hp, .int .u32 md, .int .u32 pr, .int .u32 ag, .int .u32 ai, .slice Ac cl cc], .int .i64 3] W (Tells (.bool false) W)))
  (CI : Hid (∀ W, Below w.heap.size w W → Calls Tryz.prog 72 #[.slice Ac cl cc] W (Tells (.bool false) W)))
  (z0 : 0 ≤ o) (z1 : o ≤ 2) (z3 : (n : Int) ≤ 2000) : Calls Tryz.prog 27 #[.agg #[.int .i64 h, .int .i64 o, vp, .int .u32 hp, .int .u32 md, .int .u32 pr, .int .u32 ag, .int .u32 ai, .slice Ac cl cc]] w (Tells (.bool false) w) := by
 have HB := Go.Lib.hid ((Below.refl _ w).alloc (Nat.le_refl _) (.cells #[.int .i64 h, .int .i64 o, vp, .int .u32 hp, .int .u32 md, .int .u32 pr, .int .u32 ag, .int .u32 ai, .slice Ac cl cc] 27))
 have HC := Go.Lib.hid (Box9.new w 27 (.int .i64 h) (.int .i64 o) (vp) (.int .u32 hp) (.int .u32 md) (.int .u32 pr) (.int .u32 ag) (.int .u32 ai) (.slice Ac cl cc))
 go_enter Tryz.func27, Tryz.ntmps27
 go_wp2
 have HKC := Go.Lib.hid (fun (W : World) (h : Below (w.alloc (.cells #[.int .i64 h, .int .i64 o, vp, .int .u32 hp, .int .u32 md, .int .u32 pr, .int .u32 ag, .int .u32 ai, .slice Ac cl cc] 27)).heap.size (w.alloc (.cells #[.int .i64 h, .int .i64 o, vp, .int .u32 hp, .int .u32 md, .int .u32 pr, .int .u32 ag, .int .u32 ai, .slice Ac cl cc] 27)) W) => (HC.out.keep h).cells)
 have HBW := Go.Lib.hid (fun (W : World) (h : Below (w.alloc (.cells #[.int .i64 h, .int .i64 o, vp, .int .u32 hp, .int .u32 md, .int .u32 pr, .int .u32 ag, .int .u32 ai, .slice Ac cl cc] 27)).heap.size (w.alloc (.cells #[.int .i64 h, .int .i64 o, vp, .int .u32 hp, .int .u32 md, .int .u32 pr, .int .u32 ag, .int .u32 ai, .slice Ac cl cc] 27)) W) => HB.out.trans (h.mono HB.out.size))
 have BW := Go.Lib.hid ((Below.refl (w.alloc (.cells #[.int .i64 h, .int .i64 o, vp, .int .u32 hp, .int .u32 md, .int .u32 pr, .int .u32 ag, .int .u32 ai, .slice Ac cl cc] 27)).heap.size (w.alloc (.cells #[.int .i64 h, .int .i64 o, vp, .int .u32 hp, .int .u32 md, .int .u32 pr, .int .u32 ag, .int .u32 ai, .slice Ac cl cc] 27))).drew)
 refine wp_region_noPanic ?_
 refine wp_region_held_drew (S := (fun w' => w'.cell? ⟨w.heap.size, 0, none⟩ = some (.int .i64 h) ∧ w'.cell? ⟨w.heap.size, 1, none⟩ = some (.int .i64 o) ∧ w'.cell? ⟨w.heap.size, 2, none⟩ = some (vp) ∧ w'.cell? ⟨w.heap.size, 3, none⟩ = some (.int .u32 hp) ∧ w'.cell? ⟨w.heap.size, 4, none⟩ = some (.int .u32 md) ∧ w'.cell? ⟨w.heap.size, 5, none⟩ = some (.int .u32 pr) ∧ w'.cell? ⟨w.heap.size, 6, none⟩ = some (.int .u32 ag) ∧ w'.cell? ⟨w.heap.size, 7, none⟩ = some (.int .u32 ai) ∧ w'.cell? ⟨w.heap.size, 8, none⟩ = some (.slice Ac cl cc))) (by kernel_rfl) (HKC.out _ BW.out) (fun hHeld => ?_)
 refine Take.tk 0 3 hHeld ?_
 refine Take.tk 1 4 hHeld ?_
 refine wpAnyH_ready (rs := [2]) (by kernel_rfl) (by simp) ?_
 refine AllReadyH.cons (o := ⟨some 5, .call { callee := .value (.func 68), args := #[.tmp 4], argTypes := #[27] }, 27, "attr.go:22", #[⟨1, .data⟩], none⟩) rfl (fun K hK => ?_) AllReadyH.nil
 go_simp
 go_at_call 68; refine (CN.out _ (HBW.out _ BW.out)).mono ?_; rintro e x ⟨rfl, hb⟩; replace BW := Go.Lib.hid (BW.out.trans (hb.mono BW.out.size)); clear hb
 (try go_wp2_with fail)
 refine hK.out _ _ (HKC.out _ BW.out) (fun hHeld1 => ?_)
 clear hK K
 try simp only [Act.put, List.setIfInBounds_toArray, List.set_cons_zero, List.set_cons_succ]
 refine wpAnyH_ready (rs := [3]) (by kernel_rfl) (by simp) ?_
 refine AllReadyH.cons (o := ⟨some 6, .call { callee := .value (.func 26), args := #[.tmp 3, .tmp 5], argTypes := #[27, 27] }, 4, "attr.go:22", #[⟨0, .data⟩, ⟨2, .data⟩, ⟨2, .chain⟩], none⟩) rfl (fun K hK => ?_) AllReadyH.nil
 go_simp
 go_at_call 26; refine (CM.out _ (HBW.out _ BW.out)).mono ?_; rintro e x ⟨rfl, hb⟩; replace BW := Go.Lib.hid (BW.out.trans (hb.mono BW.out.size)); clear hb
 (try go_wp2_with fail)
 refine hK.out _ _ (HKC.out _ BW.out) (fun hHeld2 => ?_)
 clear hK K
 try simp only [Act.put, List.setIfInBounds_toArray, List.set_cons_zero, List.set_cons_succ]
 refine Take.tk 4 7 hHeld2 ?_
 refine Take.tk 5 8 hHeld2 ?_
 refine Take.tk 6 9 hHeld2 ?_
 try simp only [Act.put, List.setIfInBounds_toArray, List.set_cons_zero, List.set_cons_succ]
 refine Take.tk 7 10 hHeld2 ?_
 refine Take.tk 8 11 hHeld2 ?_
 refine Take.tk 9 12 hHeld2 ?_
 try simp only [Act.put, List.setIfInBounds_toArray, List.set_cons_zero, List.set_cons_succ]
 refine Take.tk 10 13 hHeld2 ?_
 refine Take.tk 11 14 hHeld2 ?_
 refine Take.tk 12 15 hHeld2 ?_
 try simp only [Act.put, List.setIfInBounds_toArray, List.set_cons_zero, List.set_cons_succ]
 refine Take.tk 13 16 hHeld2 ?_
 refine Take.tk 14 17 hHeld2 ?_
 refine Take.tk 15 18 hHeld2 ?_
 try simp only [Act.put, List.setIfInBounds_toArray, List.set_cons_zero, List.set_cons_succ]
 refine Take.tk 16 19 hHeld2 ?_
 refine wpAnyH_ready (rs := [17]) (by kernel_rfl) (by simp) ?_
 refine AllReadyH.cons (o := ⟨some 20, .call { callee := .value (.func 69), args := #[.tmp 19], argTypes := #[23] }, 4, "attr.go:24", #[⟨16, .data⟩, ⟨14, .chain⟩, ⟨14, .guard⟩], some (14, true)⟩) rfl (fun K hK => ?_) AllReadyH.nil
 go_simp
 go_at_call 69; refine (CG.out _ (HBW.out _ BW.out)).mono ?_; rintro e x ⟨rfl, hb⟩; replace BW := Go.Lib.hid (BW.out.trans (hb.mono BW.out.size)); clear hb
 (try go_wp2_with fail)
 refine hK.out _ _ (HKC.out _ BW.out) (fun hHeld3 => ?_)
 clear hK K
 try simp only [Act.put, List.setIfInBounds_toArray, List.set_cons_zero, List.set_cons_succ]
 refine Take.tk 18 21 hHeld3 ?_
 refine Take.tk 19 22 hHeld3 ?_
 refine Take.tk 20 23 hHeld3 ?_
 try simp only [Act.put, List.setIfInBounds_toArray, List.set_cons_zero, List.set_cons_succ]
 refine Take.tk 21 24 hHeld3 ?_
 refine wpAnyH_ready (rs := [22]) (by kernel_rfl) (by simp) ?_
 refine AllReadyH.cons (o := ⟨some 25, .call { callee := .value (.func 70), args := #[.tmp 24], argTypes := #[23] }, 3, "attr.go:24", #[⟨21, .data⟩, ⟨19, .chain⟩, ⟨19, .guard⟩], some (19, true)⟩) rfl (fun K hK => ?_) AllReadyH.nil
 go_simp
 go_at_call 70; refine (CU.out _ (HBW.out _ BW.out)).mono ?_; rintro e x ⟨rfl, hb⟩; replace BW := Go.Lib.hid (BW.out.trans (hb.mono BW.out.size)); clear hb
 (try go_wp2_with fail)
 refine hK.out _ _ (HKC.out _ BW.out) (fun hHeld4 => ?_)
 clear hK K
 try simp only [Act.put, List.setIfInBounds_toArray, List.set_cons_zero, List.set_cons_succ]
 refine Take.tk 23 26 hHeld4 ?_
 refine Take.tk 24 27 hHeld4 ?_
 refine Take.tk 25 28 hHeld4 ?_
 try simp only [Act.put, List.setIfInBounds_toArray, List.set_cons_zero, List.set_cons_succ]
 refine Take.tk 26 29 hHeld4 ?_
 refine wpAnyH_ready (rs := [27]) (by kernel_rfl) (by simp) ?_
 refine AllReadyH.cons (o := ⟨some 30, .call { callee := .value (.func 58), args := #[.tmp 29, .const (.int .i64 3)], argTypes := #[27, 3] }, 4, "attr.go:25", #[⟨26, .data⟩, ⟨25, .chain⟩, ⟨25, .guard⟩], some (25, true)⟩) rfl (fun K hK => ?_) AllReadyH.nil
 go_simp
 go_at_call 58; refine (CH.out _).mono ?_; rintro e x ⟨rfl, hb⟩; replace BW := Go.Lib.hid (BW.out.trans (hb.mono BW.out.size)); clear hb
 (try go_wp2_with fail)
 refine hK.out _ _ (HKC.out _ BW.out) (fun hHeld5 => ?_)
 clear hK K
 try simp only [Act.put, List.setIfInBounds_toArray, List.set_cons_zero, List.set_cons_succ]
 refine Take.tk 28 31 hHeld5 ?_
 refine Take.tk 29 32 hHeld5 ?_
 refine Take.sk [(30, 33), (31, 34), (32, 35)] hHeld5 ?_
 try simp only [List.foldl_cons, List.foldl_nil, Act.put, List.setIfInBounds_toArray, List.set_cons_zero, List.set_cons_succ]
 refine Take.tk 33 36 hHeld5 ?_
 refine Take.tk 34 37 hHeld5 ?_
 refine Take.tk 35 38 hHeld5 ?_
 try simp only [Act.put, List.setIfInBounds_toArray, List.set_cons_zero, List.set_cons_succ]
 refine Take.tk 36 39 hHeld5 ?_
 refine Take.tk 37 40 hHeld5 ?_
 refine wpAnyH_ready (rs := [38]) (by kernel_rfl) (by simp) ?_
 refine AllReadyH.cons (o := ⟨some 41, .call { callee := .value (.func 72), args := #[.tmp 40], argTypes := #[25] }, 4, "attr.go:26", #[⟨37, .data⟩, ⟨35, .chain⟩, ⟨35, .guard⟩], some (35, true)⟩) rfl (fun K hK => ?_) AllReadyH.nil
 go_simp
 go_at_call 72; refine (CI.out _ (HBW.out _ BW.out)).mono ?_; rintro e x ⟨rfl, hb⟩; replace BW := Go.Lib.hid (BW.out.trans (hb.mono BW.out.size)); clear hb
 (try go_wp2_with fail)
 refine hK.out _ _ (HKC.out _ BW.out) (fun hHeld6 => ?_)
 clear hK K
 try simp only [Act.put, List.setIfInBounds_toArray, List.set_cons_zero, List.set_cons_succ]
 refine Take.tk 39 42 hHeld6 ?_
 refine Take.tk 40 43 hHeld6 ?_
 refine Take.sk [(41, 44), (42, 45), (43, 46), (44, 47)] hHeld6 ?_
 try simp only [List.foldl_cons, List.foldl_nil, Act.put, List.setIfInBounds_toArray, List.set_cons_zero, List.set_cons_succ]
 refine Take.tk 45 48 hHeld6 ?_
 refine Take.tk 46 2 hHeld6 ?_
 refine wpAnyH_done (by kernel_rfl) ?_ _
 refine NoPanic.normal ?_
 go_wp2
 go_ret
 exact ⟨rfl, HBW.out _ BW.out⟩
set_option maxRecDepth 100000 in
set_option maxHeartbeats 8000000 in
theorem pgood_i (h o : Int) (vp : Value) (Ac : Option Addr) (cl cc : Nat) (hp md pr ag ai : Nat) (vN : Value) (w : World) (n : Nat) (q : Bool)
  (CN : Hid (∀ W, Below w.heap.size w W → Calls Tryz.prog 68 #[.agg #[.int .i64 h, .int .i64 o, vp, .int .u32 hp, .int .u32 md, .int .u32 pr, .int .u32 ag, .int .u32 ai, .slice Ac cl cc]] W (Tells vN W)))
  (CM : Hid (∀ W, Below w.heap.size w W → Calls Tryz.prog 26 #[.agg #[.int .i64 h, .int .i64 o, vp, .int .u32 hp, .int .u32 md, .int .u32 pr, .int .u32 ag, .int .u32 ai, .slice Ac cl cc], vN] W (Tells (.bool true) W)))
  (CG : Hid (∀ W, Below w.heap.size w W → Calls Tryz.prog 69 #[vp] W (Tells (.bool true) W)))
  (CU : Hid (∀ W, Below w.heap.size w W → Calls Tryz.prog 70 #[vp] W (Tells (.int .i64 n) W)))
  (CH : Hid (∀ W, Calls Tryz.prog 58 #[.agg #[.int .i64 h, .int .i64 o, vp, .int .u32 hp, .int .u32 md, .int .u32 pr, .int .u32 ag, .int .u32 ai, .slice Ac cl cc], .int .i64 3] W (Tells (.bool false) W)))
  (CI : Hid (∀ W, Below w.heap.size w W → Calls Tryz.prog 72 #[.slice Ac cl cc] W (Tells (.bool true) W)))
  (z0 : 0 ≤ o) (z1 : o ≤ 2) (z3 : (n : Int) ≤ 2000) (z2 : decide ((cl : Int) ≤ 255) = q) : Calls Tryz.prog 27 #[.agg #[.int .i64 h, .int .i64 o, vp, .int .u32 hp, .int .u32 md, .int .u32 pr, .int .u32 ag, .int .u32 ai, .slice Ac cl cc]] w (Tells (.bool q) w) := by
 have HB := Go.Lib.hid ((Below.refl _ w).alloc (Nat.le_refl _) (.cells #[.int .i64 h, .int .i64 o, vp, .int .u32 hp, .int .u32 md, .int .u32 pr, .int .u32 ag, .int .u32 ai, .slice Ac cl cc] 27))
 have HC := Go.Lib.hid (Box9.new w 27 (.int .i64 h) (.int .i64 o) (vp) (.int .u32 hp) (.int .u32 md) (.int .u32 pr) (.int .u32 ag) (.int .u32 ai) (.slice Ac cl cc))
 go_enter Tryz.func27, Tryz.ntmps27
 go_wp2
 have HKC := Go.Lib.hid (fun (W : World) (h : Below (w.alloc (.cells #[.int .i64 h, .int .i64 o, vp, .int .u32 hp, .int .u32 md, .int .u32 pr, .int .u32 ag, .int .u32 ai, .slice Ac cl cc] 27)).heap.size (w.alloc (.cells #[.int .i64 h, .int .i64 o, vp, .int .u32 hp, .int .u32 md, .int .u32 pr, .int .u32 ag, .int .u32 ai, .slice Ac cl cc] 27)) W) => (HC.out.keep h).cells)
 have HBW := Go.Lib.hid (fun (W : World) (h : Below (w.alloc (.cells #[.int .i64 h, .int .i64 o, vp, .int .u32 hp, .int .u32 md, .int .u32 pr, .int .u32 ag, .int .u32 ai, .slice Ac cl cc] 27)).heap.size (w.alloc (.cells #[.int .i64 h, .int .i64 o, vp, .int .u32 hp, .int .u32 md, .int .u32 pr, .int .u32 ag, .int .u32 ai, .slice Ac cl cc] 27)) W) => HB.out.trans (h.mono HB.out.size))
 have BW := Go.Lib.hid ((Below.refl (w.alloc (.cells #[.int .i64 h, .int .i64 o, vp, .int .u32 hp, .int .u32 md, .int .u32 pr, .int .u32 ag, .int .u32 ai, .slice Ac cl cc] 27)).heap.size (w.alloc (.cells #[.int .i64 h, .int .i64 o, vp, .int .u32 hp, .int .u32 md, .int .u32 pr, .int .u32 ag, .int .u32 ai, .slice Ac cl cc] 27))).drew)
 refine wp_region_noPanic ?_
 refine wp_region_held_drew (S := (fun w' => w'.cell? ⟨w.heap.size, 0, none⟩ = some (.int .i64 h) ∧ w'.cell? ⟨w.heap.size, 1, none⟩ = some (.int .i64 o) ∧ w'.cell? ⟨w.heap.size, 2, none⟩ = some (vp) ∧ w'.cell? ⟨w.heap.size, 3, none⟩ = some (.int .u32 hp) ∧ w'.cell? ⟨w.heap.size, 4, none⟩ = some (.int .u32 md) ∧ w'.cell? ⟨w.heap.size, 5, none⟩ = some (.int .u32 pr) ∧ w'.cell? ⟨w.heap.size, 6, none⟩ = some (.int .u32 ag) ∧ w'.cell? ⟨w.heap.size, 7, none⟩ = some (.int .u32 ai) ∧ w'.cell? ⟨w.heap.size, 8, none⟩ = some (.slice Ac cl cc))) (by kernel_rfl) (HKC.out _ BW.out) (fun hHeld => ?_)
 refine Take.tk 0 3 hHeld ?_
 refine Take.tk 1 4 hHeld ?_
 refine wpAnyH_ready (rs := [2]) (by kernel_rfl) (by simp) ?_
 refine AllReadyH.cons (o := ⟨some 5, .call { callee := .value (.func 68), args := #[.tmp 4], argTypes := #[27] }, 27, "attr.go:22", #[⟨1, .data⟩], none⟩) rfl (fun K hK => ?_) AllReadyH.nil
 go_simp
 go_at_call 68; refine (CN.out _ (HBW.out _ BW.out)).mono ?_; rintro e x ⟨rfl, hb⟩; replace BW := Go.Lib.hid (BW.out.trans (hb.mono BW.out.size)); clear hb
 (try go_wp2_with fail)
 refine hK.out _ _ (HKC.out _ BW.out) (fun hHeld1 => ?_)
 clear hK K
 try simp only [Act.put, List.setIfInBounds_toArray, List.set_cons_zero, List.set_cons_succ]
 refine wpAnyH_ready (rs := [3]) (by kernel_rfl) (by simp) ?_
 refine AllReadyH.cons (o := ⟨some 6, .call { callee := .value (.func 26), args := #[.tmp 3, .tmp 5], argTypes := #[27, 27] }, 4, "attr.go:22", #[⟨0, .data⟩, ⟨2, .data⟩, ⟨2, .chain⟩], none⟩) rfl (fun K hK => ?_) AllReadyH.nil
 go_simp
 go_at_call 26; refine (CM.out _ (HBW.out _ BW.out)).mono ?_; rintro e x ⟨rfl, hb⟩; replace BW := Go.Lib.hid (BW.out.trans (hb.mono BW.out.size)); clear hb
 (try go_wp2_with fail)
 refine hK.out _ _ (HKC.out _ BW.out) (fun hHeld2 => ?_)
 clear hK K
 try simp only [Act.put, List.setIfInBounds_toArray, List.set_cons_zero, List.set_cons_succ]
 refine Take.tk 4 7 hHeld2 ?_
 refine Take.tk 5 8 hHeld2 ?_
 refine Take.tk 6 9 hHeld2 ?_
 try simp only [Act.put, List.setIfInBounds_toArray, List.set_cons_zero, List.set_cons_succ]
 refine Take.tk 7 10 hHeld2 ?_
 refine Take.tk 8 11 hHeld2 ?_
 refine Take.tk 9 12 hHeld2 ?_
 try simp only [Act.put, List.setIfInBounds_toArray, List.set_cons_zero, List.set_cons_succ]
 refine Take.tk 10 13 hHeld2 ?_
 refine Take.tk 11 14 hHeld2 ?_
 refine Take.tk 12 15 hHeld2 ?_
 try simp only [Act.put, List.setIfInBounds_toArray, List.set_cons_zero, List.set_cons_succ]
 refine Take.tk 13 16 hHeld2 ?_
 refine Take.tk 14 17 hHeld2 ?_
 refine Take.tk 15 18 hHeld2 ?_
 try simp only [Act.put, List.setIfInBounds_toArray, List.set_cons_zero, List.set_cons_succ]
 refine Take.tk 16 19 hHeld2 ?_
 refine wpAnyH_ready (rs := [17]) (by kernel_rfl) (by simp) ?_
 refine AllReadyH.cons (o := ⟨some 20, .call { callee := .value (.func 69), args := #[.tmp 19], argTypes := #[23] }, 4, "attr.go:24", #[⟨16, .data⟩, ⟨14, .chain⟩, ⟨14, .guard⟩], some (14, true)⟩) rfl (fun K hK => ?_) AllReadyH.nil
 go_simp
 go_at_call 69; refine (CG.out _ (HBW.out _ BW.out)).mono ?_; rintro e x ⟨rfl, hb⟩; replace BW := Go.Lib.hid (BW.out.trans (hb.mono BW.out.size)); clear hb
 (try go_wp2_with fail)
 refine hK.out _ _ (HKC.out _ BW.out) (fun hHeld3 => ?_)
 clear hK K
 try simp only [Act.put, List.setIfInBounds_toArray, List.set_cons_zero, List.set_cons_succ]
 refine Take.tk 18 21 hHeld3 ?_
 refine Take.tk 19 22 hHeld3 ?_
 refine Take.tk 20 23 hHeld3 ?_
 try simp only [Act.put, List.setIfInBounds_toArray, List.set_cons_zero, List.set_cons_succ]
 refine Take.tk 21 24 hHeld3 ?_
 refine wpAnyH_ready (rs := [22]) (by kernel_rfl) (by simp) ?_
 refine AllReadyH.cons (o := ⟨some 25, .call { callee := .value (.func 70), args := #[.tmp 24], argTypes := #[23] }, 3, "attr.go:24", #[⟨21, .data⟩, ⟨19, .chain⟩, ⟨19, .guard⟩], some (19, true)⟩) rfl (fun K hK => ?_) AllReadyH.nil
 go_simp
 go_at_call 70; refine (CU.out _ (HBW.out _ BW.out)).mono ?_; rintro e x ⟨rfl, hb⟩; replace BW := Go.Lib.hid (BW.out.trans (hb.mono BW.out.size)); clear hb
 (try go_wp2_with fail)
 refine hK.out _ _ (HKC.out _ BW.out) (fun hHeld4 => ?_)
 clear hK K
 try simp only [Act.put, List.setIfInBounds_toArray, List.set_cons_zero, List.set_cons_succ]
 refine Take.tk 23 26 hHeld4 ?_
 refine Take.tk 24 27 hHeld4 ?_
 refine Take.tk 25 28 hHeld4 ?_
 try simp only [Act.put, List.setIfInBounds_toArray, List.set_cons_zero, List.set_cons_succ]
 refine Take.tk 26 29 hHeld4 ?_
 refine wpAnyH_ready (rs := [27]) (by kernel_rfl) (by simp) ?_
 refine AllReadyH.cons (o := ⟨some 30, .call { callee := .value (.func 58), args := #[.tmp 29, .const (.int .i64 3)], argTypes := #[27, 3] }, 4, "attr.go:25", #[⟨26, .data⟩, ⟨25, .chain⟩, ⟨25, .guard⟩], some (25, true)⟩) rfl (fun K hK => ?_) AllReadyH.nil
 go_simp
 go_at_call 58; refine (CH.out _).mono ?_; rintro e x ⟨rfl, hb⟩; replace BW := Go.Lib.hid (BW.out.trans (hb.mono BW.out.size)); clear hb
 (try go_wp2_with fail)
 refine hK.out _ _ (HKC.out _ BW.out) (fun hHeld5 => ?_)
 clear hK K
 try simp only [Act.put, List.setIfInBounds_toArray, List.set_cons_zero, List.set_cons_succ]
 refine Take.tk 28 31 hHeld5 ?_
 refine Take.tk 29 32 hHeld5 ?_
 refine Take.sk [(30, 33), (31, 34), (32, 35)] hHeld5 ?_
 try simp only [List.foldl_cons, List.foldl_nil, Act.put, List.setIfInBounds_toArray, List.set_cons_zero, List.set_cons_succ]
 refine Take.tk 33 36 hHeld5 ?_
 refine Take.tk 34 37 hHeld5 ?_
 refine Take.tk 35 38 hHeld5 ?_
 try simp only [Act.put, List.setIfInBounds_toArray, List.set_cons_zero, List.set_cons_succ]
 refine Take.tk 36 39 hHeld5 ?_
 refine Take.tk 37 40 hHeld5 ?_
 refine wpAnyH_ready (rs := [38]) (by kernel_rfl) (by simp) ?_
 refine AllReadyH.cons (o := ⟨some 41, .call { callee := .value (.func 72), args := #[.tmp 40], argTypes := #[25] }, 4, "attr.go:26", #[⟨37, .data⟩, ⟨35, .chain⟩, ⟨35, .guard⟩], some (35, true)⟩) rfl (fun K hK => ?_) AllReadyH.nil
 go_simp
 go_at_call 72; refine (CI.out _ (HBW.out _ BW.out)).mono ?_; rintro e x ⟨rfl, hb⟩; replace BW := Go.Lib.hid (BW.out.trans (hb.mono BW.out.size)); clear hb
 (try go_wp2_with fail)
 refine hK.out _ _ (HKC.out _ BW.out) (fun hHeld6 => ?_)
 clear hK K
 try simp only [Act.put, List.setIfInBounds_toArray, List.set_cons_zero, List.set_cons_succ]
 refine Take.tk 39 42 hHeld6 ?_
 refine Take.tk 40 43 hHeld6 ?_
 refine Take.tk 41 44 hHeld6 ?_
 try simp only [Act.put, List.setIfInBounds_toArray, List.set_cons_zero, List.set_cons_succ]
 refine Take.tk 42 45 hHeld6 ?_
 refine Take.tk 43 46 hHeld6 ?_
 refine Take.tk 44 47 hHeld6 ?_
 try simp only [Act.put, List.setIfInBounds_toArray, List.set_cons_zero, List.set_cons_succ]
 refine Take.tk 45 48 hHeld6 ?_
 refine Take.tk 46 2 hHeld6 ?_
 refine wpAnyH_done (by kernel_rfl) ?_ _
 refine NoPanic.normal ?_
 go_wp2
 go_ret
 exact ⟨rfl, HBW.out _ BW.out⟩
end Go.Proofs.YtlhdjdnflpilbaaGreatDoor.Att
namespace Go.Proofs.YtlhdjdnflpilbaaGreatDoor.Att
open Go.RowKit Mem Segm Rise
set_option maxRecDepth 100000 in
set_option maxHeartbeats 8000000 in
theorem pgood_y (h o : Int) (vp : Value) (Ac : Option Addr) (cl cc : Nat) (hp md pr ag ai : Nat) (vN : Value) (w : World) (n : Nat)
  (CN : Hid (∀ W, Below w.heap.size w W → Calls Tryz.prog 68 #[.agg #[.int .i64 h, .int .i64 o, vp, .int .u32 hp, .int .u32 md, .int .u32 pr, .int .u32 ag, .int .u32 ai, .slice Ac cl cc]] W (Tells vN W)))
  (CM : Hid (∀ W, Below w.heap.size w W → Calls Tryz.prog 26 #[.agg #[.int .i64 h, .int .i64 o, vp, .int .u32 hp, .int .u32 md, .int .u32 pr, .int .u32 ag, .int .u32 ai, .slice Ac cl cc], vN] W (Tells (.bool true) W)))
  (CG : Hid (∀ W, Below w.heap.size w W → Calls Tryz.prog 69 #[vp] W (Tells (.bool true) W)))
  (CU : Hid (∀ W, Below w.heap.size w W → Calls Tryz.prog 70 #[vp] W (Tells (.int .i64 n) W)))
  (CH : Hid (∀ W, Calls Tryz.prog 58 #[.agg #[.int .i64 h, .int .i64 o, vp, .int .u32 hp, .int .u32 md, .int .u32 pr, .int .u32 ag, .int .u32 ai, .slice Ac cl cc], .int .i64 3] W (Tells (.bool true) W)))
  (CP : Hid (∀ W, Calls Tryz.prog 71 #[.int .u32 hp] W (Tells (.bool true) W)))
  (CI : Hid (∀ W, Below w.heap.size w W → Calls Tryz.prog 72 #[.slice Ac cl cc] W (Tells (.bool false) W)))
  (z0 : 0 ≤ o) (z1 : o ≤ 2) (z3 : (n : Int) ≤ 2000) : Calls Tryz.prog 27 #[.agg #[.int .i64 h, .int .i64 o, vp, .int .u32 hp, .int .u32 md, .int .u32 pr, .int .u32 ag, .int .u32 ai, .slice Ac cl cc]] w (Tells (.bool false) w) := by
 have HB := Go.Lib.hid ((Below.refl _ w).alloc (Nat.le_refl _) (.cells #[.int .i64 h, .int .i64 o, vp, .int .u32 hp, .int .u32 md, .int .u32 pr, .int .u32 ag, .int .u32 ai, .slice Ac cl cc] 27))
 have HC := Go.Lib.hid (Box9.new w 27 (.int .i64 h) (.int .i64 o) (vp) (.int .u32 hp) (.int .u32 md) (.int .u32 pr) (.int .u32 ag) (.int .u32 ai) (.slice Ac cl cc))
 go_enter Tryz.func27, Tryz.ntmps27
 go_wp2
 have HKC := Go.Lib.hid (fun (W : World) (h : Below (w.alloc (.cells #[.int .i64 h, .int .i64 o, vp, .int .u32 hp, .int .u32 md, .int .u32 pr, .int .u32 ag, .int .u32 ai, .slice Ac cl cc] 27)).heap.size (w.alloc (.cells #[.int .i64 h, .int .i64 o, vp, .int .u32 hp, .int .u32 md, .int .u32 pr, .int .u32 ag, .int .u32 ai, .slice Ac cl cc] 27)) W) => (HC.out.keep h).cells)
 have HBW := Go.Lib.hid (fun (W : World) (h : Below (w.alloc (.cells #[.int .i64 h, .int .i64 o, vp, .int .u32 hp, .int .u32 md, .int .u32 pr, .int .u32 ag, .int .u32 ai, .slice Ac cl cc] 27)).heap.size (w.alloc (.cells #[.int .i64 h, .int .i64 o, vp, .int .u32 hp, .int .u32 md, .int .u32 pr, .int .u32 ag, .int .u32 ai, .slice Ac cl cc] 27)) W) => HB.out.trans (h.mono HB.out.size))
 have BW := Go.Lib.hid ((Below.refl (w.alloc (.cells #[.int .i64 h, .int .i64 o, vp, .int .u32 hp, .int .u32 md, .int .u32 pr, .int .u32 ag, .int .u32 ai, .slice Ac cl cc] 27)).heap.size (w.alloc (.cells #[.int .i64 h, .int .i64 o, vp, .int .u32 hp, .int .u32 md, .int .u32 pr, .int .u32 ag, .int .u32 ai, .slice Ac cl cc] 27))).drew)
 refine wp_region_noPanic ?_
 refine wp_region_held_drew (S := (fun w' => w'.cell? ⟨w.heap.size, 0, none⟩ = some (.int .i64 h) ∧ w'.cell? ⟨w.heap.size, 1, none⟩ = some (.int .i64 o) ∧ w'.cell? ⟨w.heap.size, 2, none⟩ = some (vp) ∧ w'.cell? ⟨w.heap.size, 3, none⟩ = some (.int .u32 hp) ∧ w'.cell? ⟨w.heap.size, 4, none⟩ = some (.int .u32 md) ∧ w'.cell? ⟨w.heap.size, 5, none⟩ = some (.int .u32 pr) ∧ w'.cell? ⟨w.heap.size, 6, none⟩ = some (.int .u32 ag) ∧ w'.cell? ⟨w.heap.size, 7, none⟩ = some (.int .u32 ai) ∧ w'.cell? ⟨w.heap.size, 8, none⟩ = some (.slice Ac cl cc))) (by kernel_rfl) (HKC.out _ BW.out) (fun hHeld => ?_)
 refine Take.tk 0 3 hHeld ?_
 refine Take.tk 1 4 hHeld ?_
 refine wpAnyH_ready (rs := [2]) (by kernel_rfl) (by simp) ?_
 refine AllReadyH.cons (o := ⟨some 5, .call { callee := .value (.func 68), args := #[.tmp 4], argTypes := #[27] }, 27, "attr.go:22", #[⟨1, .data⟩], none⟩) rfl (fun K hK => ?_) AllReadyH.nil
 go_simp
 go_at_call 68; refine (CN.out _ (HBW.out _ BW.out)).mono ?_; rintro e x ⟨rfl, hb⟩; replace BW := Go.Lib.hid (BW.out.trans (hb.mono BW.out.size)); clear hb
 (try go_wp2_with fail)
 refine hK.out _ _ (HKC.out _ BW.out) (fun hHeld1 => ?_)
 clear hK K
 try simp only [Act.put, List.setIfInBounds_toArray, List.set_cons_zero, List.set_cons_succ]
 refine wpAnyH_ready (rs := [3]) (by kernel_rfl) (by simp) ?_
 refine AllReadyH.cons (o := ⟨some 6, .call { callee := .value (.func 26), args := #[.tmp 3, .tmp 5], argTypes := #[27, 27] }, 4, "attr.go:22", #[⟨0, .data⟩, ⟨2, .data⟩, ⟨2, .chain⟩], none⟩) rfl (fun K hK => ?_) AllReadyH.nil
 go_simp
 go_at_call 26; refine (CM.out _ (HBW.out _ BW.out)).mono ?_; rintro e x ⟨rfl, hb⟩; replace BW := Go.Lib.hid (BW.out.trans (hb.mono BW.out.size)); clear hb
 (try go_wp2_with fail)
 refine hK.out _ _ (HKC.out _ BW.out) (fun hHeld2 => ?_)
 clear hK K
 try simp only [Act.put, List.setIfInBounds_toArray, List.set_cons_zero, List.set_cons_succ]
 refine Take.tk 4 7 hHeld2 ?_
 refine Take.tk 5 8 hHeld2 ?_
 refine Take.tk 6 9 hHeld2 ?_
 try simp only [Act.put, List.setIfInBounds_toArray, List.set_cons_zero, List.set_cons_succ]
 refine Take.tk 7 10 hHeld2 ?_
 refine Take.tk 8 11 hHeld2 ?_
 refine Take.tk 9 12 hHeld2 ?_
 try simp only [Act.put, List.setIfInBounds_toArray, List.set_cons_zero, List.set_cons_succ]
 refine Take.tk 10 13 hHeld2 ?_
 refine Take.tk 11 14 hHeld2 ?_
 refine Take.tk 12 15 hHeld2 ?_
 try simp only [Act.put, List.setIfInBounds_toArray, List.set_cons_zero, List.set_cons_succ]
 refine Take.tk 13 16 hHeld2 ?_
 refine Take.tk 14 17 hHeld2 ?_
 refine Take.tk 15 18 hHeld2 ?_
 try simp only [Act.put, List.setIfInBounds_toArray, List.set_cons_zero, List.set_cons_succ]
 refine Take.tk 16 19 hHeld2 ?_
 refine wpAnyH_ready (rs := [17]) (by kernel_rfl) (by simp) ?_
 refine AllReadyH.cons (o := ⟨some 20, .call { callee := .value (.func 69), args := #[.tmp 19], argTypes := #[23] }, 4, "attr.go:24", #[⟨16, .data⟩, ⟨14, .chain⟩, ⟨14, .guard⟩], some (14, true)⟩) rfl (fun K hK => ?_) AllReadyH.nil
 go_simp
 go_at_call 69; refine (CG.out _ (HBW.out _ BW.out)).mono ?_; rintro e x ⟨rfl, hb⟩; replace BW := Go.Lib.hid (BW.out.trans (hb.mono BW.out.size)); clear hb
 (try go_wp2_with fail)
 refine hK.out _ _ (HKC.out _ BW.out) (fun hHeld3 => ?_)
 clear hK K
 try simp only [Act.put, List.setIfInBounds_toArray, List.set_cons_zero, List.set_cons_succ]
 refine Take.tk 18 21 hHeld3 ?_
 refine Take.tk 19 22 hHeld3 ?_
 refine Take.tk 20 23 hHeld3 ?_
 try simp only [Act.put, List.setIfInBounds_toArray, List.set_cons_zero, List.set_cons_succ]
 refine Take.tk 21 24 hHeld3 ?_
 refine wpAnyH_ready (rs := [22]) (by kernel_rfl) (by simp) ?_
 refine AllReadyH.cons (o := ⟨some 25, .call { callee := .value (.func 70), args := #[.tmp 24], argTypes := #[23] }, 3, "attr.go:24", #[⟨21, .data⟩, ⟨19, .chain⟩, ⟨19, .guard⟩], some (19, true)⟩) rfl (fun K hK => ?_) AllReadyH.nil
 go_simp
 go_at_call 70; refine (CU.out _ (HBW.out _ BW.out)).mono ?_; rintro e x ⟨rfl, hb⟩; replace BW := Go.Lib.hid (BW.out.trans (hb.mono BW.out.size)); clear hb
 (try go_wp2_with fail)
 refine hK.out _ _ (HKC.out _ BW.out) (fun hHeld4 => ?_)
 clear hK K
 try simp only [Act.put, List.setIfInBounds_toArray, List.set_cons_zero, List.set_cons_succ]
 refine Take.tk 23 26 hHeld4 ?_
 refine Take.tk 24 27 hHeld4 ?_
 refine Take.tk 25 28 hHeld4 ?_
 try simp only [Act.put, List.setIfInBounds_toArray, List.set_cons_zero, List.set_cons_succ]
 refine Take.tk 26 29 hHeld4 ?_
 refine wpAnyH_ready (rs := [27]) (by kernel_rfl) (by simp) ?_
 refine AllReadyH.cons (o := ⟨some 30, .call { callee := .value (.func 58), args := #[.tmp 29, .const (.int .i64 3)], argTypes := #[27, 3] }, 4, "attr.go:25", #[⟨26, .data⟩, ⟨25, .chain⟩, ⟨25, .guard⟩], some (25, true)⟩) rfl (fun K hK => ?_) AllReadyH.nil
 go_simp
 go_at_call 58; refine (CH.out _).mono ?_; rintro e x ⟨rfl, hb⟩; replace BW := Go.Lib.hid (BW.out.trans (hb.mono BW.out.size)); clear hb
 (try go_wp2_with fail)
 refine hK.out _ _ (HKC.out _ BW.out) (fun hHeld5 => ?_)
 clear hK K
 try simp only [Act.put, List.setIfInBounds_toArray, List.set_cons_zero, List.set_cons_succ]
 refine Take.tk 28 31 hHeld5 ?_
 refine Take.tk 29 32 hHeld5 ?_
 refine Take.tk 30 33 hHeld5 ?_
 try simp only [Act.put, List.setIfInBounds_toArray, List.set_cons_zero, List.set_cons_succ]
 refine Take.tk 31 34 hHeld5 ?_
 refine wpAnyH_ready (rs := [32]) (by kernel_rfl) (by simp) ?_
 refine AllReadyH.cons (o := ⟨some 35, .call { callee := .value (.func 71), args := #[.tmp 34], argTypes := #[24] }, 4, "attr.go:25", #[⟨31, .data⟩, ⟨29, .chain⟩, ⟨29, .guard⟩], some (29, false)⟩) rfl (fun K hK => ?_) AllReadyH.nil
 go_simp
 go_at_call 71; refine (CP.out _).mono ?_; rintro e x ⟨rfl, hb⟩; replace BW := Go.Lib.hid (BW.out.trans (hb.mono BW.out.size)); clear hb
 (try go_wp2_with fail)
 refine hK.out _ _ (HKC.out _ BW.out) (fun hHeld6 => ?_)
 clear hK K
 try simp only [Act.put, List.setIfInBounds_toArray, List.set_cons_zero, List.set_cons_succ]
 refine Take.tk 33 36 hHeld6 ?_
 refine Take.tk 34 37 hHeld6 ?_
 refine Take.tk 35 38 hHeld6 ?_
 try simp only [Act.put, List.setIfInBounds_toArray, List.set_cons_zero, List.set_cons_succ]
 refine Take.tk 36 39 hHeld6 ?_
 refine Take.tk 37 40 hHeld6 ?_
 refine wpAnyH_ready (rs := [38]) (by kernel_rfl) (by simp) ?_
 refine AllReadyH.cons (o := ⟨some 41, .call { callee := .value (.func 72), args := #[.tmp 40], argTypes := #[25] }, 4, "attr.go:26", #[⟨37, .data⟩, ⟨35, .chain⟩, ⟨35, .guard⟩], some (35, true)⟩) rfl (fun K hK => ?_) AllReadyH.nil
 go_simp
 go_at_call 72; refine (CI.out _ (HBW.out _ BW.out)).mono ?_; rintro e x ⟨rfl, hb⟩; replace BW := Go.Lib.hid (BW.out.trans (hb.mono BW.out.size)); clear hb
 (try go_wp2_with fail)
 refine hK.out _ _ (HKC.out _ BW.out) (fun hHeld7 => ?_)
 clear hK K
 try simp only [Act.put, List.setIfInBounds_toArray, List.set_cons_zero, List.set_cons_succ]
 refine Take.tk 39 42 hHeld7 ?_
 refine Take.tk 40 43 hHeld7 ?_
 refine Take.sk [(41, 44), (42, 45), (43, 46), (44, 47)] hHeld7 ?_
 try simp only [List.foldl_cons, List.foldl_nil, Act.put, List.setIfInBounds_toArray, List.set_cons_zero, List.set_cons_succ]
 refine Take.tk 45 48 hHeld7 ?_
 refine Take.tk 46 2 hHeld7 ?_
 refine wpAnyH_done (by kernel_rfl) ?_ _
 refine NoPanic.normal ?_
 go_wp2
 go_ret
 exact ⟨rfl, HBW.out _ BW.out⟩
set_option maxRecDepth 100000 in
set_option maxHeartbeats 8000000 in
theorem pgood_z (h o : Int) (vp : Value) (Ac : Option Addr) (cl cc : Nat) (hp md pr ag ai : Nat) (vN : Value) (w : World) (n : Nat) (q : Bool)
  (CN : Hid (∀ W, Below w.heap.size w W → Calls Tryz.prog 68 #[.agg #[.int .i64 h, .int .i64 o, vp, .int .u32 hp, .int .u32 md, .int .u32 pr, .int .u32 ag, .int .u32 ai, .slice Ac cl cc]] W (Tells vN W)))
  (CM : Hid (∀ W, Below w.heap.size w W → Calls Tryz.prog 26 #[.agg #[.int .i64 h, .int .i64 o, vp, .int .u32 hp, .int .u32 md, .int .u32 pr, .int .u32 ag, .int .u32 ai, .slice Ac cl cc], vN] W (Tells (.bool true) W)))
  (CG : Hid (∀ W, Below w.heap.size w W → Calls Tryz.prog 69 #[vp] W (Tells (.bool true) W)))
  (CU : Hid (∀ W, Below w.heap.size w W → Calls Tryz.prog 70 #[vp] W (Tells (.int .i64 n) W)))
  (CH : Hid (∀ W, Calls Tryz.prog 58 #[.agg #[.int .i64 h, .int .i64 o, vp, .int .u32 hp, .int .u32 md, .int .u32 pr, .int .u32 ag, .int .u32 ai, .slice Ac cl cc], .int .i64 3] W (Tells (.bool true) W)))
  (CP : Hid (∀ W, Calls Tryz.prog 71 #[.int .u32 hp] W (Tells (.bool true) W)))
  (CI : Hid (∀ W, Below w.heap.size w W → Calls Tryz.prog 72 #[.slice Ac cl cc] W (Tells (.bool true) W)))
  (z0 : 0 ≤ o) (z1 : o ≤ 2) (z3 : (n : Int) ≤ 2000) (z2 : decide ((cl : Int) ≤ 255) = q) : Calls Tryz.prog 27 #[.agg #[.int .i64 h, .int .i64 o, vp, .int .u32 hp, .int .u32 md, .int .u32 pr, .int .u32 ag, .int .u32 ai, .slice Ac cl cc]] w (Tells (.bool q) w) := by
 have HB := Go.Lib.hid ((Below.refl _ w).alloc (Nat.le_refl _) (.cells #[.int .i64 h, .int .i64 o, vp, .int .u32 hp, .int .u32 md, .int .u32 pr, .int .u32 ag, .int .u32 ai, .slice Ac cl cc] 27))
 have HC := Go.Lib.hid (Box9.new w 27 (.int .i64 h) (.int .i64 o) (vp) (.int .u32 hp) (.int .u32 md) (.int .u32 pr) (.int .u32 ag) (.int .u32 ai) (.slice Ac cl cc))
 go_enter Tryz.func27, Tryz.ntmps27
 go_wp2
 have HKC := Go.Lib.hid (fun (W : World) (h : Below (w.alloc (.cells #[.int .i64 h, .int .i64 o, vp, .int .u32 hp, .int .u32 md, .int .u32 pr, .int .u32 ag, .int .u32 ai, .slice Ac cl cc] 27)).heap.size (w.alloc (.cells #[.int .i64 h, .int .i64 o, vp, .int .u32 hp, .int .u32 md, .int .u32 pr, .int .u32 ag, .int .u32 ai, .slice Ac cl cc] 27)) W) => (HC.out.keep h).cells)
 have HBW := Go.Lib.hid (fun (W : World) (h : Below (w.alloc (.cells #[.int .i64 h, .int .i64 o, vp, .int .u32 hp, .int .u32 md, .int .u32 pr, .int .u32 ag, .int .u32 ai, .slice Ac cl cc] 27)).heap.size (w.alloc (.cells #[.int .i64 h, .int .i64 o, vp, .int .u32 hp, .int .u32 md, .int .u32 pr, .int .u32 ag, .int .u32 ai, .slice Ac cl cc] 27)) W) => HB.out.trans (h.mono HB.out.size))
 have BW := Go.Lib.hid ((Below.refl (w.alloc (.cells #[.int .i64 h, .int .i64 o, vp, .int .u32 hp, .int .u32 md, .int .u32 pr, .int .u32 ag, .int .u32 ai, .slice Ac cl cc] 27)).heap.size (w.alloc (.cells #[.int .i64 h, .int .i64 o, vp, .int .u32 hp, .int .u32 md, .int .u32 pr, .int .u32 ag, .int .u32 ai, .slice Ac cl cc] 27))).drew)
 refine wp_region_noPanic ?_
 refine wp_region_held_drew (S := (fun w' => w'.cell? ⟨w.heap.size, 0, none⟩ = some (.int .i64 h) ∧ w'.cell? ⟨w.heap.size, 1, none⟩ = some (.int .i64 o) ∧ w'.cell? ⟨w.heap.size, 2, none⟩ = some (vp) ∧ w'.cell? ⟨w.heap.size, 3, none⟩ = some (.int .u32 hp) ∧ w'.cell? ⟨w.heap.size, 4, none⟩ = some (.int .u32 md) ∧ w'.cell? ⟨w.heap.size, 5, none⟩ = some (.int .u32 pr) ∧ w'.cell? ⟨w.heap.size, 6, none⟩ = some (.int .u32 ag) ∧ w'.cell? ⟨w.heap.size, 7, none⟩ = some (.int .u32 ai) ∧ w'.cell? ⟨w.heap.size, 8, none⟩ = some (.slice Ac cl cc))) (by kernel_rfl) (HKC.out _ BW.out) (fun hHeld => ?_)
 refine Take.tk 0 3 hHeld ?_
 refine Take.tk 1 4 hHeld ?_
 refine wpAnyH_ready (rs := [2]) (by kernel_rfl) (by simp) ?_
 refine AllReadyH.cons (o := ⟨some 5, .call { callee := .value (.func 68), args := #[.tmp 4], argTypes := #[27] }, 27, "attr.go:22", #[⟨1, .data⟩], none⟩) rfl (fun K hK => ?_) AllReadyH.nil
 go_simp
 go_at_call 68; refine (CN.out _ (HBW.out _ BW.out)).mono ?_; rintro e x ⟨rfl, hb⟩; replace BW := Go.Lib.hid (BW.out.trans (hb.mono BW.out.size)); clear hb
 (try go_wp2_with fail)
 refine hK.out _ _ (HKC.out _ BW.out) (fun hHeld1 => ?_)
 clear hK K
 try simp only [Act.put, List.setIfInBounds_toArray, List.set_cons_zero, List.set_cons_succ]
 refine wpAnyH_ready (rs := [3]) (by kernel_rfl) (by simp) ?_
 refine AllReadyH.cons (o := ⟨some 6, .call { callee := .value (.func 26), args := #[.tmp 3, .tmp 5], argTypes := #[27, 27] }, 4, "attr.go:22", #[⟨0, .data⟩, ⟨2, .data⟩, ⟨2, .chain⟩], none⟩) rfl (fun K hK => ?_) AllReadyH.nil
 go_simp
 go_at_call 26; refine (CM.out _ (HBW.out _ BW.out)).mono ?_; rintro e x ⟨rfl, hb⟩; replace BW := Go.Lib.hid (BW.out.trans (hb.mono BW.out.size)); clear hb
 (try go_wp2_with fail)
 refine hK.out _ _ (HKC.out _ BW.out) (fun hHeld2 => ?_)
 clear hK K
 try simp only [Act.put, List.setIfInBounds_toArray, List.set_cons_zero, List.set_cons_succ]
 refine Take.tk 4 7 hHeld2 ?_
 refine Take.tk 5 8 hHeld2 ?_
 refine Take.tk 6 9 hHeld2 ?_
 try simp only [Act.put, List.setIfInBounds_toArray, List.set_cons_zero, List.set_cons_succ]
 refine Take.tk 7 10 hHeld2 ?_
 refine Take.tk 8 11 hHeld2 ?_
 refine Take.tk 9 12 hHeld2 ?_
 try simp only [Act.put, List.setIfInBounds_toArray, List.set_cons_zero, List.set_cons_succ]
 refine Take.tk 10 13 hHeld2 ?_
 refine Take.tk 11 14 hHeld2 ?_
 refine Take.tk 12 15 hHeld2 ?_
 try simp only [Act.put, List.setIfInBounds_toArray, List.set_cons_zero, List.set_cons_succ]
 refine Take.tk 13 16 hHeld2 ?_
 refine Take.tk 14 17 hHeld2 ?_
 refine Take.tk 15 18 hHeld2 ?_
 try simp only [Act.put, List.setIfInBounds_toArray, List.set_cons_zero, List.set_cons_succ]
 refine Take.tk 16 19 hHeld2 ?_
 refine wpAnyH_ready (rs := [17]) (by kernel_rfl) (by simp) ?_
 refine AllReadyH.cons (o := ⟨some 20, .call { callee := .value (.func 69), args := #[.tmp 19], argTypes := #[23] }, 4, "attr.go:24", #[⟨16, .data⟩, ⟨14, .chain⟩, ⟨14, .guard⟩], some (14, true)⟩) rfl (fun K hK => ?_) AllReadyH.nil
 go_simp
 go_at_call 69; refine (CG.out _ (HBW.out _ BW.out)).mono ?_; rintro e x ⟨rfl, hb⟩; replace BW := Go.Lib.hid (BW.out.trans (hb.mono BW.out.size)); clear hb
 (try go_wp2_with fail)
 refine hK.out _ _ (HKC.out _ BW.out) (fun hHeld3 => ?_)
 clear hK K
 try simp only [Act.put, List.setIfInBounds_toArray, List.set_cons_zero, List.set_cons_succ]
 refine Take.tk 18 21 hHeld3 ?_
 refine Take.tk 19 22 hHeld3 ?_
 refine Take.tk 20 23 hHeld3 ?_
 try simp only [Act.put, List.setIfInBounds_toArray, List.set_cons_zero, List.set_cons_succ]
 refine Take.tk 21 24 hHeld3 ?_
 refine wpAnyH_ready (rs := [22]) (by kernel_rfl) (by simp) ?_
 refine AllReadyH.cons (o := ⟨some 25, .call { callee := .value (.func 70), args := #[.tmp 24], argTypes := #[23] }, 3, "attr.go:24", #[⟨21, .data⟩, ⟨19, .chain⟩, ⟨19, .guard⟩], some (19, true)⟩) rfl (fun K hK => ?_) AllReadyH.nil
 go_simp
 go_at_call 70; refine (CU.out _ (HBW.out _ BW.out)).mono ?_; rintro e x ⟨rfl, hb⟩; replace BW := Go.Lib.hid (BW.out.trans (hb.mono BW.out.size)); clear hb
 (try go_wp2_with fail)
 refine hK.out _ _ (HKC.out _ BW.out) (fun hHeld4 => ?_)
 clear hK K
 try simp only [Act.put, List.setIfInBounds_toArray, List.set_cons_zero, List.set_cons_succ]
 refine Take.tk 23 26 hHeld4 ?_
 refine Take.tk 24 27 hHeld4 ?_
 refine Take.tk 25 28 hHeld4 ?_
 try simp only [Act.put, List.setIfInBounds_toArray, List.set_cons_zero, List.set_cons_succ]
 refine Take.tk 26 29 hHeld4 ?_
 refine wpAnyH_ready (rs := [27]) (by kernel_rfl) (by simp) ?_
 refine AllReadyH.cons (o := ⟨some 30, .call { callee := .value (.func 58), args := #[.tmp 29, .const (.int .i64 3)], argTypes := #[27, 3] }, 4, "attr.go:25", #[⟨26, .data⟩, ⟨25, .chain⟩, ⟨25, .guard⟩], some (25, true)⟩) rfl (fun K hK => ?_) AllReadyH.nil
 go_simp
 go_at_call 58; refine (CH.out _).mono ?_; rintro e x ⟨rfl, hb⟩; replace BW := Go.Lib.hid (BW.out.trans (hb.mono BW.out.size)); clear hb
 (try go_wp2_with fail)
 refine hK.out _ _ (HKC.out _ BW.out) (fun hHeld5 => ?_)
 clear hK K
 try simp only [Act.put, List.setIfInBounds_toArray, List.set_cons_zero, List.set_cons_succ]
 refine Take.tk 28 31 hHeld5 ?_
 refine Take.tk 29 32 hHeld5 ?_
 refine Take.tk 30 33 hHeld5 ?_
 try simp only [Act.put, List.setIfInBounds_toArray, List.set_cons_zero, List.set_cons_succ]
 refine Take.tk 31 34 hHeld5 ?_
 refine wpAnyH_ready (rs := [32]) (by kernel_rfl) (by simp) ?_
 refine AllReadyH.cons (o := ⟨some 35, .call { callee := .value (.func 71), args := #[.tmp 34], argTypes := #[24] }, 4, "attr.go:25", #[⟨31, .data⟩, ⟨29, .chain⟩, ⟨29, .guard⟩], some (29, false)⟩) rfl (fun K hK => ?_) AllReadyH.nil
 go_simp
 go_at_call 71; refine (CP.out _).mono ?_; rintro e x ⟨rfl, hb⟩; replace BW := Go.Lib.hid (BW.out.trans (hb.mono BW.out.size)); clear hb
 (try go_wp2_with fail)
 refine hK.out _ _ (HKC.out _ BW.out) (fun hHeld6 => ?_)
 clear hK K
 try simp only [Act.put, List.setIfInBounds_toArray, List.set_cons_zero, List.set_cons_succ]
 refine Take.tk 33 36 hHeld6 ?_
 refine Take.tk 34 37 hHeld6 ?_
 refine Take.tk 35 38 hHeld6 ?_
 try simp only [Act.put, List.setIfInBounds_toArray, List.set_cons_zero, List.set_cons_succ]
 refine Take.tk 36 39 hHeld6 ?_
 refine Take.tk 37 40 hHeld6 ?_
 refine wpAnyH_ready (rs := [38]) (by kernel_rfl) (by simp) ?_
 refine AllReadyH.cons (o := ⟨some 41, .call { callee := .value (.func 72), args := #[.tmp 40], argTypes := #[25] }, 4, "attr.go:26", #[⟨37, .data⟩, ⟨35, .chain⟩, ⟨35, .guard⟩], some (35, true)⟩) rfl (fun K hK => ?_) AllReadyH.nil
 go_simp
 go_at_call 72; refine (CI.out _ (HBW.out _ BW.out)).mono ?_; rintro e x ⟨rfl, hb⟩; replace BW := Go.Lib.hid (BW.out.trans (hb.mono BW.out.size)); clear hb
 (try go_wp2_with fail)
 refine hK.out _ _ (HKC.out _ BW.out) (fun hHeld7 => ?_)
 clear hK K
 try simp only [Act.put, List.setIfInBounds_toArray, List.set_cons_zero, List.set_cons_succ]
 refine Take.tk 39 42 hHeld7 ?_
 refine Take.tk 40 43 hHeld7 ?_
 refine Take.tk 41 44 hHeld7 ?_
 try simp only [Act.put, List.setIfInBounds_toArray, List.set_cons_zero, List.set_cons_succ]
 refine Take.tk 42 45 hHeld7 ?_
 refine Take.tk 43 46 hHeld7 ?_
 refine Take.tk 44 47 hHeld7 ?_
 try simp only [Act.put, List.setIfInBounds_toArray, List.set_cons_zero, List.set_cons_succ]
 refine Take.tk 45 48 hHeld7 ?_
 refine Take.tk 46 2 hHeld7 ?_
 refine wpAnyH_done (by kernel_rfl) ?_ _
 refine NoPanic.normal ?_
 go_wp2
 go_ret
 exact ⟨rfl, HBW.out _ BW.out⟩
end Go.Proofs.YtlhdjdnflpilbaaGreatDoor.Att
