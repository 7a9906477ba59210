/- Plain: what is told of a head is told in numbers that fit. It speaks of no function of the program. -/
import Derived.Test.YtgeekckoepnccaaFrmMath
namespace Go.Proofs.Ytgeekckoepnccaa.Frm
open Oct Att

theorem headH_wf (b : List Nat) : (Lit.int .i64 (headH b).code).wf = true ∧ (Lit.int .i64 (headH b).sub).wf = true := by
  unfold headH
  repeat' split
  all_goals exact ⟨by (try unfold noneF); dsimp only; decide, by (try unfold noneF); dsimp only; decide⟩
theorem pcs_wf (b : List Nat) : (Lit.int .i64 (pcs b).2.2.code).wf = true ∧ (Lit.int .i64 (pcs b).2.2.sub).wf = true := by
  induction hn : b.length using Nat.strongRecOn generalizing b with
  | _ n ih =>
    rw [pcs_step]
    split
    · exact ⟨by decide, by decide⟩
    · split
      · exact headH_wf b
      · rename_i h1 h2
        obtain ⟨-, h4, -⟩ := headH_none (b := b) (by simpa using h2)
        split
        · exact ⟨by decide, by decide⟩
        · have hd : (b.drop (lenH b)).length = b.length - lenH b := List.length_drop
          exact ih _ (by omega) (b.drop (lenH b)) rfl
end Go.Proofs.Ytgeekckoepnccaa.Frm
