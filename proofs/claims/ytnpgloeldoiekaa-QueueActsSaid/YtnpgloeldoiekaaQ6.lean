/- Q6: layer 7: a request's text read: contract of readText. -/
import Derived.Test.YtnpgloeldoiekaaQ5
import Derived.Test.YtnpgloeldoiekaaN8
namespace Go.Proofs.Ytnpgloeldoiekaa
open Go.RowKit Go.V
theorem four_rd (c s k y : Nat) (hc : c < 256) (hs : s < 256) (hk : k < 256) (hy : y < 256) (R : List UInt8) (i : Nat) (hi : i < 4) : ∃ n : Nat, n < 256 ∧ ([.int .i64 (c : Int), .int .i64 (s : Int), .int .i64 (k : Int), .int .i64 (y : Int)] : List Value)[i]? = some (.int .i64 (n : Int)) ∧
    fixRd 1 (([UInt8.ofNat c, UInt8.ofNat s, UInt8.ofNat k, UInt8.ofNat y] ++ R).drop i) = .ok n := by
  have one : ∀ (n : Nat) (l : List UInt8), n < 256 → fixRd 1 (UInt8.ofNat n :: l) = .ok n := fun n l hn => by
    unfold fixRd
    rw [if_pos (by unfold okN; omega), if_neg (by simp)]
    simp [fixN, Nat.mod_eq_of_lt hn]
  match i, hi with
  | 0, _ => exact ⟨c, hc, rfl, one _ _ hc⟩
  | 1, _ => exact ⟨s, hs, rfl, one _ _ hs⟩
  | 2, _ => exact ⟨k, hk, rfl, one _ _ hk⟩
  | 3, _ => exact ⟨y, hy, rfl, one _ _ hy⟩
theorem sizeI7 : (Try.prog.info? 3).map (·.size) = some 1 := by kernel_rfl
theorem sizeL7 : (Try.prog.info? 2).map (·.size) = some 1 := by kernel_rfl
theorem sizeO : (Try.prog.info? 29).map (·.size) = some 4 := by kernel_rfl
theorem zeroO : (Try.prog.info? 29).map (·.zero) = some (some (.agg [.int .i64 0, .int .i64 0, .int .i64 0, .int .i64 0].toArray)) := by kernel_rfl
def zQ : List Value := [.int .i64 0, .int .i64 0, .int .i64 0, .int .i64 0, .int .i64 0, .int .i64 0, .slice none 0 0]
end Go.Proofs.Ytnpgloeldoiekaa
