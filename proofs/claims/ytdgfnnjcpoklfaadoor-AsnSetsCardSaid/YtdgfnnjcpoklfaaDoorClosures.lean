/- asn's function values: what is kept of two sets, and what is seen of each number. -/
import Derived.Test.YtdgfnnjcpoklfaaDoorSetRef3
import Derived.BigQuiet
import Derived.Deep.QuietTactic
import Derived.OneCell
import Derived.Outline
namespace Go.Proofs.YtdgfnnjcpoklfaaDoor.Nums
open Go.RowKit Mem Rise

/-- The ways to keep. -/
def Taker (g : FuncId) (f : Bool → Bool → Bool) : Prop :=
  (g = 50 ∧ f = fun x y => x || y) ∨ (g = 51 ∧ f = fun x y => x && !y)

theorem union1_any (x y : Bool) (w : World) : Calls Tryd.prog 50 #[.bool x, .bool y] w fun e w' => e = .returned (.bool (x || y)) ∧ w = w' := by
  cases x <;> cases y <;> (go_enter Tryd.func50, Tryd.ntmps50; go_wp2; go_ret; exact ⟨rfl, rfl⟩)
theorem minus1_any (x y : Bool) (w : World) : Calls Tryd.prog 51 #[.bool x, .bool y] w fun e w' => e = .returned (.bool (x && !y)) ∧ w = w' := by
  cases x <;> cases y <;> (go_enter Tryd.func51, Tryd.ntmps51; go_wp2; go_ret; exact ⟨rfl, rfl⟩)
theorem takerUnion : Taker 50 (fun x y => x || y) := .inl ⟨rfl, rfl⟩
theorem takerMinus : Taker 51 (fun x y => x && !y) := .inr ⟨rfl, rfl⟩

/-- What stands in memory while two sets are walked: which way to keep, and what is kept so far. -/
def Keeps (W : World) (g : FuncId) (Bt Bk : Nat) (K : List Nat) : Prop :=
  W.heap[Bt]? = some (.cells #[.func (.func g) #[] #[]] 68 (0, 0)) ∧ Bt < Bk ∧ ∃ kv, W.heap[Bk]? = some (.cells #[kv] 22 (0, 0)) ∧ W.ownsRow (Bk + 1) 23 1 kv K.length (K.map fun n : Nat => Value.int .u32 n)
/-- What a number that is seen leaves. -/
def Seen (g : FuncId) (Bt Bk : Nat) (K : List Nat) (W : World) (e : Ending) (w' : World) : Prop := e = .returned (.bool true) ∧ Keeps w' g Bt Bk K ∧ Below (Bt + 1) W w'

theorem keeps_parts {W : World} {g Bt Bk : Nat} {K : List Nat} (h : Keeps W g Bt Bk K) :
    ∃ kv, W.cell? ⟨Bt, 0, none⟩ = some (.func (.func g) #[] #[]) ∧ W.cell? ⟨Bk, 0, none⟩ = some kv ∧ W.frozen? ⟨Bk, 0, none⟩ = false ∧ Bt < Bk ∧ Bk < W.heap.size ∧ W.heap[Bk]? = some (.cells #[kv] 22 (0, 0)) ∧ W.ownsRow (Bk + 1) 23 1 kv K.length (K.map fun n : Nat => Value.int .u32 n) := by
  obtain ⟨hT, hlt, kv, hK, hown⟩ := h
  exact ⟨kv, cell_of_one hT, cell_of_one hK, free_of_one hK, hlt, lt_of_block hK, hK, hown⟩

theorem keeps_end {W w1 : World} {g Bt Bk n : Nat} {K : List Nat} {kv v1 : Value} (h : Keeps W g Bt Bk K) (hkv : W.heap[Bk]? = some (.cells #[kv] 22 (0, 0)))
    (hown1 : w1.ownsRow (Bk + 1) 23 1 v1 (K.length + 1) ((K.map fun n : Nat => Value.int .u32 n) ++ [.int .u32 n])) (hb1 : Below (Bk + 1) (W.alloc (.cells #[.int .u32 n] 23)) w1) :
    Seen g Bt Bk (K ++ [n]) W (.returned (.bool true)) (w1.setCell ⟨Bk, 0, none⟩ v1) := by
  obtain ⟨hT, hlt, kv', hK, _⟩ := h
  have hBk := lt_of_block hkv
  have hBt := lt_of_block hT
  have hb2 : Below (Bk + 1) W w1 := ((Below.refl _ _).alloc (by omega) _).trans hb1
  have hk1 : w1.heap[Bk]? = some (.cells #[kv] 22 (0, 0)) := (hb2.block Bk (by omega)).trans hkv
  refine ⟨rfl, ⟨?_, hlt, v1, one_setCell hk1, ?_⟩, ?_⟩
  · rw [Below.heap_setCell _ _ _ _ (by simp; omega)]
    exact (hb2.block Bt (by omega)).trans hT
  · have := ownsRow_setCell_other (a := ⟨Bk, 0, none⟩) hown1 (fun e => absurd (hown1.lt _ e).1 (by show ¬ Bk + 1 ≤ Bk; omega)) v1
    simpa using this
  · exact (hb2.mono (by omega)).setCell (by simp; omega) _

set_option maxHeartbeats 1000000 in
theorem see_any (g : FuncId) (f : Bool → Bool → Bool) (hg : Taker g f) (n : Nat) (x y : Bool) (Bt Bk : Nat) (K : List Nat) (W : World) (h : Keeps W g Bt Bk K) (hlen : K.length ≤ 5000) :
    Calls Tryd.prog 70 #[.int .u32 n, .bool x, .bool y, .pointer (some ⟨Bt, 0, none⟩), .pointer (some ⟨Bk, 0, none⟩)] W (Seen g Bt Bk (if f x y then K ++ [n] else K) W) := by
  obtain ⟨i, E⟩ := elem32
  have HH := Go.Lib.hid h
  obtain ⟨kv, c1, c2, c3, hlt, hBk, hkv, hown⟩ := keeps_parts h
  have HK := Go.Lib.hid hkv
  have hc2 : (W.alloc (.cells #[.int .u32 n] 23)).cell? ⟨Bk, 0, none⟩ = some kv := by rw [World.cell?_alloc_past _ _ _ hBk]; exact c2
  have hf2 : (W.alloc (.cells #[.int .u32 n] 23)).frozen? ⟨Bk, 0, none⟩ = false := (((Below.refl (Bk + 1) W).alloc (by omega) _).frozen (p := ⟨Bk, 0, none⟩) (Nat.lt_succ_self _)).trans c3
  have CUnion := Go.Lib.hid union1_any
  have CMinus := Go.Lib.hid minus1_any
  clear h hkv
  have hB1 : Bk + 1 ≤ (W.alloc (.cells #[.int .u32 n] 23)).heap.size := Nat.le_trans hBk (by simp)
  have hL1 : K.length + 1 ≤ maxLen := by unfold maxLen; omega
  have hL2 : (K.length + 1) * 4 ≤ 140737488355328 := by omega
  rcases hg with ⟨rfl, rfl⟩ | ⟨rfl, rfl⟩ <;> cases x <;> cases y
  all_goals
    simp only [Bool.or_false, Bool.or_true, Bool.and_false, Bool.and_true, Bool.not_true, Bool.not_false, if_true, if_false, Bool.false_eq_true]
    go_enter Tryd.func70, Tryd.ntmps70
    go_wp2_with (first | (go_at_call 50; with_reducible refine (CUnion.out _ _ _).mono ?_; rintro e w1 ⟨rfl, rfl⟩) | (go_at_call 51; with_reducible refine (CMinus.out _ _ _).mono ?_; rintro e w1 ⟨rfl, rfl⟩) | (at_builtin; refine wpList_append_row rfl (.tmp 13) (.tmp 15) rfl E (Bk + 1) _ K.length _ rfl (hown.alloc _) _ 1 [.int .u32 n] rfl (Row.one _ _ _) (one_u32 _) hL1 hL2 hB1 (K.length + 1) rfl ?_; intro A1 k1 w1 hown1 hg1 hat1 hb1; have c4 := (hb1.cell (p := ⟨Bk, 0, none⟩) (Nat.lt_succ_self _)).trans hc2; have c5 := (hb1.frozen (p := ⟨Bk, 0, none⟩) (Nat.lt_succ_self _)).trans hf2))
    go_ret
    first
    | exact ⟨rfl, HH.out, Below.refl _ _⟩
    | exact keeps_end HH.out HK.out hown1 hb1
end Go.Proofs.YtdgfnnjcpoklfaaDoor.Nums
