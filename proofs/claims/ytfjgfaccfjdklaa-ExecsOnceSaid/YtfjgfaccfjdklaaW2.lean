/- W2: layer 6: contracts of package views: members, how many must agree, who leads. -/
import Derived.Test.YtfjgfaccfjdklaaW1
import Derived.Test.YtfjgfaccfjdklaaN3
namespace Go.V
open Go.RowKit
theorem mem_at (M : Nat) (k : Nat) (h : k < szM M) : ∃ x, (memL M 16)[k]? = some x ∧ x < 16 ∧ mbit M x = true := by
  refine ⟨_, List.getElem?_eq_getElem h, ?_⟩
  exact (mem_iff M 16 _).1 (List.getElem_mem h)
end Go.V
namespace Go.Proofs.Ytfjgfaccfjdklaa
open Go.RowKit Go.V
/-- a new slice of ints, nothing else turned -/
def NewI (w w' : World) (v : Value) (l : List Nat) : Prop := w'.ownsRow w.heap.size 3 1 v l.length (ivs l) ∧ Below w.heap.size w w'
end Go.Proofs.Ytfjgfaccfjdklaa
