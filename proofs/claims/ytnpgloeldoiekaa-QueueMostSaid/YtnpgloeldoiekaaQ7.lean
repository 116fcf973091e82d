/- Q7: layer 7: a request read: contract of Get, over the bytes of a request that is formed. -/
import Derived.Test.YtnpgloeldoiekaaQ6
import Derived.Test.YtnpgloeldoiekaaN8
import Derived.Test.YtnpgloeldoiekaaVA
namespace Go.Proofs.Ytnpgloeldoiekaa
open Go.RowKit Go.V
theorem zeroQ : (Try.prog.info? 32).map (·.zero) = some (some (.agg zQ.toArray)) := by kernel_rfl
theorem sizeSl7 : (Try.prog.info? 30).map (·.size) = some 1 := by kernel_rfl
theorem oneQ (r : Rq) (A : Option Addr) (n c : Nat) : ∀ v ∈ r.l (.slice A n c), v.oneCell' = true := by
  intro v hv; simp [Rq.l] at hv; rcases hv with rfl | rfl | rfl | rfl | rfl | rfl | rfl <;> rfl
theorem Rd.shapeS {w : World} {F : Nat → Prop} {v : Value} {b : List UInt8} (h : Rd w F v (bys b)) : ∃ A c, v = .slice A b.length c := h.shape
end Go.Proofs.Ytnpgloeldoiekaa
