/- Notices in boxes that a law keeps. It speaks of no function of the program. -/
import Derived.Test.YtplolahbjebbaaaDoorNtcFun
import Derived.Test.YtplolahbjebbaaaDoorOctRd
namespace Go.Proofs.YtplolahbjebbaaaDoor.Ntc
open Go.RowKit Mem Oct Att
open Go.Lib (hid)

structure KeptN (W : World) (B : Nat) (q : No) (vd : Value) : Prop where
  box : Box3 W B 24 (.int .i64 q.code) (.int .i64 q.sub) vd
  no : Note W (.agg #[.int .i64 q.code, .int .i64 q.sub, vd]) q
theorem KeptN.below {W W2 : World} {B : Nat} {q : No} {vd : Value} (h : KeptN W B q vd) (hb : Below W.heap.size W W2) : KeptN W2 B q vd := ⟨h.box.keep hb, h.no.keep hb⟩
theorem KeptN.cells {W : World} {B : Nat} {q : No} {vd : Value} (h : KeptN W B q vd) : W.cell? ⟨B, 0, none⟩ = some (.int .i64 q.code) ∧ W.cell? ⟨B, 1, none⟩ = some (.int .i64 q.sub) ∧ W.cell? ⟨B, 2, none⟩ = some vd := h.box.cells
theorem KeptN.dat {W : World} {B : Nat} {q : No} {vd : Value} (h : KeptN W B q vd) : U8s W vd q.data := by
  obtain ⟨-, -, v, e, hd⟩ := h.no
  obtain rfl : vd = v := by simpa using e
  exact hd
/-- Other data are stored into a box; what lies in no box is as it was. -/
theorem kept_store {W : World} {B : Nat} {c s : Int} {A : Option Addr} {k d : Nat} {v : Value} {l : List Nat} (h : Box3 W B 24 (.int .i64 c) (.int .i64 s) (.slice A k d)) (hc : (Lit.int .i64 c).wf = true) (hs : (Lit.int .i64 s).wf = true) (hv : U8s W v l) :
    KeptN (W.setCell ⟨B, 2, none⟩ v) B ⟨c, s, l⟩ v ∧ (∀ x m, U8s W x m → U8s (W.setCell ⟨B, 2, none⟩ v) x m) := by
  have hk : ∀ k, k ≠ B → (W.setCell ⟨B, 2, none⟩ v).heap[k]? = W.heap[k]? := fun k hk => Go.RowKit.Below.heap_setCell _ _ _ _ (fun e => hk e)
  have hz : W.heap.size ≤ (W.setCell ⟨B, 2, none⟩ v).heap.size := by simp
  have hx : ∀ x m, U8s W x m → U8s (W.setCell ⟨B, 2, none⟩ v) x m := fun x m h2 => u8_apart h2 (h.no8 (no8_i _) (no8_i _) (no8_s _ _ _)) hk hz
  exact ⟨⟨h.set2 v, hc, hs, v, rfl, hx v l hv⟩, hx⟩
end Go.Proofs.YtplolahbjebbaaaDoor.Ntc
