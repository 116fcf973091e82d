/- I4: several texts in one (UV I4). -/
import Derived.Test.YtnhhbbjkeekneaaDoorVA
import Derived.Test.YtnhhbbjkeekneaaDoorN6
import Derived.Test.YtnhhbbjkeekneaaDoorRB
/- UV: laws: two new variables stored at once (x, y := f()), two results that lie in cells, a pair of cells. No project text. -/
namespace Go.V
open Go.RowKit
theorem alloc2 (w : World) (tA tB : TypeId) (lA lB : List Value) : ∃ W, W = ((w.alloc (.cells lA.toArray tA)).alloc (.cells lB.toArray tB)) ∧ Blk W w.heap.size tA lA ∧ Blk W (w.heap.size + 1) tB lB ∧ Below w.heap.size w W := by
  refine ⟨_, rfl, ?_⟩
  have a1 := Blk.new' w tA lA
  have B1 : Below w.heap.size w (w.alloc (.cells lA.toArray tA)) := (Below.refl _ _).alloc (Nat.le_refl _) _
  obtain ⟨w1, h1⟩ : ∃ x, x = w.alloc (.cells lA.toArray tA) := ⟨_, rfl⟩
  have s1 : w1.heap.size = w.heap.size + 1 := by rw [h1]; simp
  rw [← h1] at a1 B1 ⊢
  clear h1
  have a2 := Blk.new' w1 tB lB
  have B2 : Below w1.heap.size w1 (w1.alloc (.cells lB.toArray tB)) := (Below.refl _ _).alloc (Nat.le_refl _) _
  rw [← s1]
  exact ⟨a1.below B2, a2, B1.trans (B2.mono (by omega))⟩
end Go.V
/- I4: layer 1: the document's reading of a packed number, a count, a text. -/
namespace Go.Proofs.YtnhhbbjkeekneaaDoor
open Go.RowKit Go.V
theorem rd_err {bs : List UInt8} {e : Nat} (h : readPk bs = .error e) : e = 1 ∨ e = 2 := rdF_err _ _ _ _ h
end Go.Proofs.YtnhhbbjkeekneaaDoor
