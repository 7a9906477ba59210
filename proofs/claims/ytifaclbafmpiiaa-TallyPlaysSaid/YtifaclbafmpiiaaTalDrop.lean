/- What Drop does to a tally. -/
import Derived.Test.YtifaclbafmpiiaaTalHold
import Derived.Maps.OwnSet
namespace Go.Proofs.Ytifaclbafmpiiaa.Tal
open Go.RowKit Mem Go.Maps

/-- A key struck from no map. -/
theorem wpList_delete_nil {P : Program} (w : World) {ops : Array Oper} {rest : List Oper} {o : Oper} {a : Go.Act} {Q : Exit → Go.Act → World → Prop} (hg : o.guard = none) (m x : Operand) (t k : TypeId) (hop : o.op = Op.call { callee := Callee.builtin Builtin.delete, args := #[m, x], argTypes := #[t, k] })
    (hm : a.eval m = .map none) (key : Value) (hx : a.eval x = key) (hrun : ∀ ty, (Builtin.delete_ #[t, k] ty #[.map none, key]).run P w = .ok (.tuple #[]) w)
    (hK : wpList P ops Q rest (a.put o.dst (.tuple #[])) w) : wpList P ops Q (o :: rest) a w := by
  refine wpList_plain hg fun K' hK' => ?_
  unfold Oper.wp
  simp [execOp, hop, resolve, invoke, builtin, hm, hx, hrun, Result.andThen]
  exact hK' _ _ hK
set_option maxRecDepth 100000 in
set_option maxHeartbeats 2000000 in
theorem drop_any (v : Value) (l : List Cnt) (F : Nat → Prop) (key : Nat) (w : World) (hk : key < 4294967296) (hT : T w v l F) :
    Calls Try.prog 11 #[v, .int .u32 key] w (TurnF v F (.bool (idx l key).isSome) (cutS l key) w) := by
  have hT0 := hT
  obtain ⟨hgood, b, m, rfl, hb, h⟩ := hT
  have c0 := cell_of hb
  have hlt : b < w.heap.size := (Array.getElem?_eq_some_iff.1 hb).1
  rcases h with ⟨rfl, rfl, rfl⟩ | ⟨bm, rfl, hne, hown, rfl⟩
  · have hr := look_nil_T w hk true
    simp only [if_true] at hr
    have hd : ∀ ty W, (Builtin.delete_ #[58, 23] ty #[.map none, .int .u32 key]).run Try.prog W = .ok (.tuple #[]) W := fun ty W => Maps.drop_nil law32 Try.underlying58 (key32 hk) ty
    have HB := Go.Lib.hid (show Below w.heap.size w (w.alloc (.cells #[.int .i64 0, .int .i64 0] 62)) from (Below.refl _ w).alloc (Nat.le_refl _) _)
    have HT := Go.Lib.hid hT0
    have HD := Go.Lib.hid hd
    have k0 := (HB.out.cell (p := ⟨b, 0, none⟩) hlt).trans c0
    clear hb hT0 hgood hlt hd
    go_enter Try.func11, Try.ntmps11
    go_wp2_with (at_delete; refine wpList_delete_nil _ rfl _ _ 58 23 rfl rfl _ rfl (fun ty => HD.out ty _) ?_)
    go_ret
    exact ⟨rfl, face_T.below HT.out HB.out, Moved.same HB.out⟩
  · have hr := look_ok_T hown hk
    have HB0 : ∀ u d : Int, Below w.heap.size w (w.alloc (.cells #[.int .i64 u, .int .i64 d] 62)) := fun u d => (Below.refl _ w).alloc (Nat.le_refl _) _
    have HO0 : ∀ u d : Int, (w.alloc (.cells #[.int .i64 u, .int .i64 d] 62)).ownsMap Try.prog 23 cntR bm l.length (dat l) := fun u d => hown.alloc _
    have HB1 : ∀ u d : Int, (w.alloc (.cells #[.int .i64 u, .int .i64 d] 62)).cell? ⟨b, 0, none⟩ = some (.map (some bm)) := fun u d => ((HB0 u d).cell hlt).trans c0
    have HE := Go.Lib.hid (fun (u d : Int) (w' : World) (h1 : w'.ownsMap Try.prog 23 cntR bm l.length ((dat l).del (.int .u32 key))) (h2 : (w.alloc (.cells #[.int .i64 u, .int .i64 d] 62)).mapTurned w' bm) =>
      show TurnF (.pointer (some ⟨b, 0, none⟩)) (fun k => k = b ∨ k = bm) (.bool (idx l key).isSome) (cutS l key) w (.returned (.bool (idx l key).isSome)) w' from by
        rw [del_dat] at h1
        have h3 := owns_size h1
        rw [size_dat] at h3
        exact ⟨rfl, ⟨good_cut hgood, b, some bm, rfl, held_map hlt hb (HB0 u d) h2.grown hne, .inr ⟨bm, rfl, hne, h3, rfl⟩⟩, moved_map (HB0 u d) h2.grown (.inr rfl)⟩)
    have HO := Go.Lib.hid HO0
    generalize ofG Cnt.up l key = U at hr
    generalize ofG Cnt.down l key = D at hr
    have k0 := HB1 U D
    clear hb hown hT0 hgood HB0 HO0 HB1 hlt
    generalize (idx l key).isSome = q at hr HE ⊢
    have HK := Go.Lib.hid hk
    go_enter Try.func11, Try.ntmps11
    go_wp2_with (at_delete; refine wpList_delete_own _ rfl _ _ 58 23 rfl 62 law32 Try.underlying58 cntR bm l.length (dat l) rfl (HO.out _ _) _ _ rfl (key32 HK.out) ?_; intro w1 hown1 hturn1; have H9 := Go.Lib.hid (HE.out _ _ _ hown1 hturn1); clear hown1 hturn1)
    go_ret
    exact H9.out
end Go.Proofs.Ytifaclbafmpiiaa.Tal
