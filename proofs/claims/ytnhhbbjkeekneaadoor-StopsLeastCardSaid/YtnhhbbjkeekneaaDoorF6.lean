/- F6: opening an argument that is a view. No project text. -/
import Derived.Test.YtnhhbbjkeekneaaDoorW2
import Derived.Test.YtnhhbbjkeekneaaDoorZ2
import Derived.Lib.SmallJoins
namespace Go.V
open Go.ChangeShapes Go.WideShapes Go.ChangeAt Go.RowKit Go.Joins Go.Deep
/-- an argument that is a view -/
theorem open_view {H : Type} {enc : TypeId × Value → H} {P : Program} {W : World} {base : Nat} {t : TypeId} {f0 f1 : Field} (ht : P.underlying t = some (.struct #[f0, f1])) (hone : oneCellFields P #[f0, f1] = true) (hC : P.cellsOf t = 2)
    (h0 : P.underlying f0.type = some (.int .i64)) (h1 : P.underlying f1.type = some (.int .u16))
    {v : Value} {d : DataW H} {p : List MemPlace} (hv : Value.okWide P W .any base t v) (h : DataW.Trod enc P W 0 (fun _ => true) true t v d p) :
    ∃ (n : Int) (M : Nat), v = vw n M ∧ M < 65536 ∧ -9223372036854775808 ≤ n ∧ n ≤ 9223372036854775807 := by
  obtain ⟨v0, v1, y0, y1, k, rfl, _, _, r0, r1⟩ := open_agg2 ht hone hC hv h
  obtain ⟨n, e0, _, w0⟩ := DataW.trod_int h0 r0
  obtain ⟨m, e1, _, w1⟩ := DataW.trod_int h1 r1
  obtain ⟨M, rfl, hM⟩ := u16_of_wf w1
  have hn := i64_of_wf w0
  injection e0 with e0
  injection e1 with e1
  subst e0 e1
  exact ⟨n, M, rfl, hM, hn⟩
end Go.V
