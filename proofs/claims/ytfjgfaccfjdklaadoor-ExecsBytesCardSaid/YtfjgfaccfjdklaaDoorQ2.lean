/- Q2: layer 7: contracts of formed, by the program and by the document. -/
import Derived.Test.YtfjgfaccfjdklaaDoorQ1
namespace Go.Proofs.YtfjgfaccfjdklaaDoor
open Go.RowKit Go.V
theorem fm_false {r : Rq} (h : r.c < 0 ∨ 6 ≤ r.c ∨ r.s < 1 ∨ 9 ≤ r.s) : r.fm = false := by
  unfold Rq.fm
  rw [decide_eq_false_iff_not]
  omega
end Go.Proofs.YtfjgfaccfjdklaaDoor
