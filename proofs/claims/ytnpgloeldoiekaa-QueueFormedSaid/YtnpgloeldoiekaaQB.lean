/- QB: layer 7: contract of formedBatch. -/
import Derived.Test.YtnpgloeldoiekaaQA
import Derived.Test.YtnpgloeldoiekaaQ7
namespace Go.V
open Go.RowKit
def six (A : Nat → Int) : List Value := [.int .i64 (A 0), .int .i64 (A 1), .int .i64 (A 2), .int .i64 (A 3), .int .i64 (A 4), .int .i64 (A 5)]
theorem six_at (A : Nat → Int) (C : Nat) (h : C < 6) : (six A)[C]? = some (.int .i64 (A C)) := by
  match C, h with
  | 0, _ | 1, _ | 2, _ | 3, _ | 4, _ | 5, _ => rfl
theorem six_set (A : Nat → Int) (C : Nat) (s : Int) (h : C < 6) : (six A).set C (.int .i64 s) = six (upd A C s) := by
  match C, h with
  | 0, _ | 1, _ | 2, _ | 3, _ | 4, _ | 5, _ => rfl
end Go.V
namespace Go.Proofs.Ytnpgloeldoiekaa
open Go.RowKit Go.V
end Go.Proofs.Ytnpgloeldoiekaa
