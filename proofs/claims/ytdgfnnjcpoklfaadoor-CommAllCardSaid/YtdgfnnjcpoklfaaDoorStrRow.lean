/- A text appended to bytes of the call's own. It speaks of no function of the program. -/
import Derived.Test.YtdgfnnjcpoklfaaDoorMem
import Derived.Test.YtdgfnnjcpoklfaaDoorStr
import Derived.Lib.AppendStr
import Derived.Lib.UnsafeStr
namespace Go.Proofs.YtdgfnnjcpoklfaaDoor.Mem
open Go.RowKit Pfx

theorem strCells_strOf (l : List UInt8) : Lib.strCells (strOf l) = Lib.byteCells l := by simp [Lib.strCells, Lib.byteCells, strOf]
theorem byteCells_append (l m : List UInt8) : Lib.byteCells (l ++ m) = Lib.byteCells l ++ Lib.byteCells m := by simp [Lib.byteCells]
theorem wpList_append_str {P : Program} {w : World} {t u e : TypeId} {i : TypeInfo} {ops : Array Oper} {rest : List Oper} {o : Oper} {a : Act} {Q : Exit → Act → World → Prop} (hgd : o.guard = none) (s y : Operand)
    (ho : o.op = .call { callee := .builtin .append, args := #[s, y], argTypes := #[t, u] }) (E : IsElem P t e 1 1 i (.int .u8 0)) (hu : P.underlying u = some .string)
    (base : Nat) (v : Value) (n : Nat) (xs : List Value) (hs : a.eval s = v) (hown : w.ownsRow base e 1 v n xs) (l : List UInt8) (hx : a.eval y = .string (strOf l))
    (h63 : n + l.length ≤ maxLen) (hbytes : n + l.length ≤ 140737488355328) (hbase : base ≤ w.heap.size) (N : Nat) (hN : n + l.length = N)
    (h : ∀ A' c' w', w'.ownsRow base e 1 (.slice A' N c') N (xs ++ Lib.byteCells l) → Below base w w' → wpList P ops Q rest (a.put o.dst (.slice A' N c')) w') : wpList P ops Q (o :: rest) a w := by
  refine Lib.wpList_append_own_string w hgd s y t u ho base e i E.ht hu E.hi E.hz E.hsize E.hby v n xs hs hown (strOf l) hx (by rw [strOf_size]; exact h63) (by rw [strOf_size]; exact hbytes) hbase ?_
  intro v' w' h2 h3 _
  rw [strOf_size, hN, strCells_strOf] at h2
  obtain ⟨A', c', rfl⟩ := own_form h2
  exact h A' c' w' h2 (below_of_grown hown h3 hbase)
end Go.Proofs.YtdgfnnjcpoklfaaDoor.Mem
