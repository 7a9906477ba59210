/- Strings as lists of bytes. It speaks of no function of the program. -/
import Derived.Test.YtplolahbjebbaaaDoorProg
import Derived.Test.YtplolahbjebbaaaDoorDecMath
import Derived.ShutString
import Derived.WalkKit
namespace Go.Proofs.YtplolahbjebbaaaDoor.Pfx
open Go.RowKit

def strOf (l : List UInt8) : ByteArray := ⟨l.toArray⟩
theorem strOf_append (l m : List UInt8) : strOf l ++ strOf m = strOf (l ++ m) := by
  unfold strOf
  apply ByteArray.ext
  simp
theorem strOf_size (l : List UInt8) : (strOf l).size = l.length := by simp [strOf, ByteArray.size]
theorem strOf_inj {l m : List UInt8} (h : strOf l = strOf m) : l = m := by
  unfold strOf at h
  injection h with h
  simpa using congrArg Array.toList h
theorem strOf_toList (s : ByteArray) : strOf s.data.toList = s := by unfold strOf; simp
theorem toList_strOf (l : List UInt8) : (strOf l).toList = l := by rw [Lib.toList_data]; simp [strOf]
/-- A test on two strings, as the walk spells it. -/
theorem str_eq (l m : List UInt8) : ((strOf l).toList == (strOf m).toList) = decide (l = m) := by
  rw [toList_strOf, toList_strOf]
  by_cases h : l = m <;> simp [h]
end Go.Proofs.YtplolahbjebbaaaDoor.Pfx
