/- W5: layer 6: wakes, same, the law ViewsCounts. -/
import Derived.Test.YtfjgfaccfjdklaaW4
namespace Go.Proofs.Ytfjgfaccfjdklaa
open Go.RowKit Go.V
theorem leadZ_bd (n : Int) (M : Nat) (r : Int) : -1 ≤ leadZ n M r ∧ leadZ n M r < 16 := by
  unfold leadZ
  split
  · rename_i h
    have hz := rgt_sz h.1
    have hlt : r.toNat % szM M < szM M := Nat.mod_lt _ (by omega)
    obtain ⟨x, hx, hx16, _⟩ := mem_at M _ hlt
    rw [List.getD, hx]
    simp
    omega
  · omega
end Go.Proofs.Ytfjgfaccfjdklaa
