/- W3: layer 6: contracts of package views: how many must agree, who leads. -/
import Derived.Test.YtfjgfaccfjdklaaW2
import Derived.Test.YtfjgfaccfjdklaaVA
namespace Go.V
open Go.RowKit
def fltN (n : Int) (M : Nat) : Nat := if rgt n M then (szM M - 1) / 3 else 0
def quoN (n : Int) (M : Nat) : Nat := if rgt n M then (szM M + fltN n M) / 2 + 1 else 0
def enoN (n : Int) (M : Nat) : Nat := if rgt n M then szM M - fltN n M else 0
def somN (n : Int) (M : Nat) : Nat := if rgt n M then fltN n M + 1 else 0
def leadZ (n : Int) (M : Nat) (r : Int) : Int := if rgt n M ∧ 0 ≤ r then (((memL M 16).getD (r.toNat % szM M) 0 : Nat) : Int) else -1
theorem rgt_sz {n : Int} {M : Nat} (h : rgt n M = true) : 0 ≤ n ∧ n ≤ 60 ∧ 4 ≤ szM M ∧ szM M ≤ 7 := by unfold rgt at h; exact of_decide_eq_true h
end Go.V
namespace Go.Proofs.Ytfjgfaccfjdklaa
open Go.RowKit Go.V
theorem sizeV : (Try.prog.info? 28).map (·.size) = some 2 := by kernel_rfl
end Go.Proofs.Ytfjgfaccfjdklaa
