/-
  No cell of these rows narrows 'for every input' (looked for: loops, veiled, ifaces, maps, wideKeys, modest, calm, conditions, laid).
  DERIVED. THE GIVEN ROWS OF THIS SEAT. 5 by the template 'for every input the law returns true; each argument reads behind the call as it read before'; 0 by the template 'total and deterministic' (their statements: YthibjdbjkkejeaaTotals.lean).
  GIVEN WITH THE SEED: the statements are not yours to turn. If you find one false, say at which input.
  Laid BY PROGRAM, IN A SANDBOX (cutbox-rows.mjs): the forced cells as the released guide's own fill.sh prints them over the translation 3d88a763eb89a0ef… (all of the seat's roots in one cut). By AI agents, Wed Nov 11 2026. No macro, syntax, notation, axiom, sorry.
-/
import Derived.Test.YthibjdbjkkejeaaChecked
import GoSem.Claim
import GoSem.ClaimJoined
import GoSem.ClaimMapViews
import Derived.JoinedTies
import Derived.KernelRfl
namespace Go.Proofs.Ythibjdbjkkejeaa
/- THE CELL 'sum', in the pinned program and in every row, IS THE sha256 OF THE DUMP (.gsa) THAT YthibjdbjkkejeaaProg.lean LOADS. Nothing in Lean hashes anything: it is a label: what it is worth is what the hold of that sum in a sandbox is worth. -/
noncomputable def Try.pinned : Pinned := { name := "ythibjdbjkkejeaa", sum := "3d88a763eb89a0ef4efbfd9e4ffd4906a66b866399efc388589e782931f7b3fd", checked := Try.checked }
namespace Rows
def none {H : Type} : Left H := { results := [], args := [] }

/-- 'consistorylaw06.ViewsCounts': WHATEVER THE INPUT: true; the input reads as it did. -/
def viewsCountsSpec : ChangeSpec := { name := "viewsCounts", fn := fun _ => fun
  | [d1, d2, d3] => { results := [.lit (.bool true)], args := [d1, d2, d3] }
  | _ => none }
def viewsCountsRow : OpenClaim := { program := "ythibjdbjkkejeaa", sum := "3d88a763eb89a0ef4efbfd9e4ffd4906a66b866399efc388589e782931f7b3fd", func := "consistory/consistorylaw06.ViewsCounts", spec := "viewsCounts", apart := false }
def ViewsCountsSaid : Prop := viewsCountsRow.holds Try.pinned (OpenSpec.ofChange viewsCountsSpec)

/-- ITS FALSE NEIGHBOUR: 'it returns false'. Refute it at one input. -/
def viewsCountsWrong : ChangeSpec := { name := "viewsCounts", fn := fun _ => fun
  | [d1, d2, d3] => { results := [.lit (.bool false)], args := [d1, d2, d3] }
  | _ => none }
def ViewsCountsWrongFalsely : Prop := viewsCountsRow.holds Try.pinned (OpenSpec.ofChange viewsCountsWrong)

/-- 'consistorylaw06.ViewsShare': WHATEVER THE INPUT: true; the input reads as it did. -/
def viewsShareSpec : ChangeSpec := { name := "viewsShare", fn := fun _ => fun
  | [d1, d2, d3] => { results := [.lit (.bool true)], args := [d1, d2, d3] }
  | _ => none }
def viewsShareRow : OpenClaim := { program := "ythibjdbjkkejeaa", sum := "3d88a763eb89a0ef4efbfd9e4ffd4906a66b866399efc388589e782931f7b3fd", func := "consistory/consistorylaw06.ViewsShare", spec := "viewsShare", unfollowed := true, recurses := true, apart := false }
def ViewsShareSaid : Prop := viewsShareRow.holds Try.pinned (OpenSpec.ofChange viewsShareSpec)

/-- ITS FALSE NEIGHBOUR: 'it returns false'. Refute it at one input. -/
def viewsShareWrong : ChangeSpec := { name := "viewsShare", fn := fun _ => fun
  | [d1, d2, d3] => { results := [.lit (.bool false)], args := [d1, d2, d3] }
  | _ => none }
def ViewsShareWrongFalsely : Prop := viewsShareRow.holds Try.pinned (OpenSpec.ofChange viewsShareWrong)

/-- 'consistorylaw06.ViewsBytes': WHATEVER THE INPUT: true; the input reads as it did. -/
def viewsBytesSpec : ChangeSpec := { name := "viewsBytes", fn := fun _ => fun
  | [d1, d2] => { results := [.lit (.bool true)], args := [d1, d2] }
  | _ => none }
def viewsBytesRow : OpenClaim := { program := "ythibjdbjkkejeaa", sum := "3d88a763eb89a0ef4efbfd9e4ffd4906a66b866399efc388589e782931f7b3fd", func := "consistory/consistorylaw06.ViewsBytes", spec := "viewsBytes", apart := false }
def ViewsBytesSaid : Prop := viewsBytesRow.holds Try.pinned (OpenSpec.ofChange viewsBytesSpec)

/-- ITS FALSE NEIGHBOUR: 'it returns false'. Refute it at one input. -/
def viewsBytesWrong : ChangeSpec := { name := "viewsBytes", fn := fun _ => fun
  | [d1, d2] => { results := [.lit (.bool false)], args := [d1, d2] }
  | _ => none }
def ViewsBytesWrongFalsely : Prop := viewsBytesRow.holds Try.pinned (OpenSpec.ofChange viewsBytesWrong)

/-- 'consistorylaw06.ViewsNext': WHATEVER THE INPUT: true; the input reads as it did. -/
def viewsNextSpec : ChangeSpec := { name := "viewsNext", fn := fun _ => fun
  | [d1, d2] => { results := [.lit (.bool true)], args := [d1, d2] }
  | _ => none }
def viewsNextRow : OpenClaim := { program := "ythibjdbjkkejeaa", sum := "3d88a763eb89a0ef4efbfd9e4ffd4906a66b866399efc388589e782931f7b3fd", func := "consistory/consistorylaw06.ViewsNext", spec := "viewsNext", apart := false }
def ViewsNextSaid : Prop := viewsNextRow.holds Try.pinned (OpenSpec.ofChange viewsNextSpec)

/-- ITS FALSE NEIGHBOUR: 'it returns false'. Refute it at one input. -/
def viewsNextWrong : ChangeSpec := { name := "viewsNext", fn := fun _ => fun
  | [d1, d2] => { results := [.lit (.bool false)], args := [d1, d2] }
  | _ => none }
def ViewsNextWrongFalsely : Prop := viewsNextRow.holds Try.pinned (OpenSpec.ofChange viewsNextWrong)

/-- 'consistorylaw06.ViewsLeads': WHATEVER THE INPUT: true; the input reads as it did. -/
def viewsLeadsSpec : ChangeSpec := { name := "viewsLeads", fn := fun _ => fun
  | [d1, d2] => { results := [.lit (.bool true)], args := [d1, d2] }
  | _ => none }
def viewsLeadsRow : OpenClaim := { program := "ythibjdbjkkejeaa", sum := "3d88a763eb89a0ef4efbfd9e4ffd4906a66b866399efc388589e782931f7b3fd", func := "consistory/consistorylaw06.ViewsLeads", spec := "viewsLeads", apart := false }
def ViewsLeadsSaid : Prop := viewsLeadsRow.holds Try.pinned (OpenSpec.ofChange viewsLeadsSpec)

/-- ITS FALSE NEIGHBOUR: 'it returns false'. Refute it at one input. -/
def viewsLeadsWrong : ChangeSpec := { name := "viewsLeads", fn := fun _ => fun
  | [d1, d2] => { results := [.lit (.bool false)], args := [d1, d2] }
  | _ => none }
def ViewsLeadsWrongFalsely : Prop := viewsLeadsRow.holds Try.pinned (OpenSpec.ofChange viewsLeadsWrong)

/- THE SECOND FORM. 'bulk': how many values and letters a reading holds, each counted each time it is reached (what is shared counts as often as it is met; a slice's spare places count too). A statement '..UptoSaid' is the law's where the arguments, and the package variables that the reading takes, are together of bulk at most 1048576: NARROWER than '..Said'. Prove '..Said' where nothing that the law and all that it calls make is longer than what came in: it says more and counts as full. Else prove '..UptoSaid'. A law counts once. -/
mutual
def uptoBulk {H : Type} : DataW H → Nat
  | .lit (.string bytes) => bytes.length + 1
  | .lit _ => 1
  | .nil => 1
  | .ptr d => uptoBulk d + 1
  | .slice elems spare => uptoBulkAll elems + uptoBulkAll spare + 1
  | .agg parts => uptoBulkAll parts + 1
  | .iface _ d => uptoBulk d + 1
  | .map entries => uptoBulkEntries entries + 1
  | .held _ => 1
def uptoBulkAll {H : Type} : List (DataW H) → Nat
  | [] => 0
  | d :: r => uptoBulk d + uptoBulkAll r
def uptoBulkEntries {H : Type} : List (Lit × DataW H) → Nat
  | [] => 0
  | x :: r => uptoBulkEntry x + uptoBulkEntries r
def uptoBulkEntry {H : Type} : Lit × DataW H → Nat
  | (.string bytes, d) => bytes.length + uptoBulk d + 1
  | (_, d) => uptoBulk d + 1
 end
def uptoSmall : (H : Type) → List (DataW H) → Bool := fun _ ds => decide (uptoBulkAll ds ≤ 1048576)
def OpenSpec.upto (s : _root_.Go.ChangeSpec) : _root_.Go.OpenSpec := { _root_.Go.OpenSpec.ofChange s with cond := some uptoSmall }

/-- 'consistorylaw06.ViewsCounts', WHERE WHAT IT READS IS OF BULK AT MOST 1048576: true; the input reads as it did. -/
def viewsCountsUptoRow : OpenClaim := { program := "ythibjdbjkkejeaa", sum := "3d88a763eb89a0ef4efbfd9e4ffd4906a66b866399efc388589e782931f7b3fd", func := "consistory/consistorylaw06.ViewsCounts", spec := "viewsCounts", apart := false, narrowed := true }
def ViewsCountsUptoSaid : Prop := viewsCountsUptoRow.holds Try.pinned (OpenSpec.upto viewsCountsSpec)

/-- 'consistorylaw06.ViewsShare', WHERE WHAT IT READS IS OF BULK AT MOST 1048576: true; the input reads as it did. -/
def viewsShareUptoRow : OpenClaim := { program := "ythibjdbjkkejeaa", sum := "3d88a763eb89a0ef4efbfd9e4ffd4906a66b866399efc388589e782931f7b3fd", func := "consistory/consistorylaw06.ViewsShare", spec := "viewsShare", unfollowed := true, recurses := true, apart := false, narrowed := true }
def ViewsShareUptoSaid : Prop := viewsShareUptoRow.holds Try.pinned (OpenSpec.upto viewsShareSpec)

/-- 'consistorylaw06.ViewsBytes', WHERE WHAT IT READS IS OF BULK AT MOST 1048576: true; the input reads as it did. -/
def viewsBytesUptoRow : OpenClaim := { program := "ythibjdbjkkejeaa", sum := "3d88a763eb89a0ef4efbfd9e4ffd4906a66b866399efc388589e782931f7b3fd", func := "consistory/consistorylaw06.ViewsBytes", spec := "viewsBytes", apart := false, narrowed := true }
def ViewsBytesUptoSaid : Prop := viewsBytesUptoRow.holds Try.pinned (OpenSpec.upto viewsBytesSpec)

/-- 'consistorylaw06.ViewsNext', WHERE WHAT IT READS IS OF BULK AT MOST 1048576: true; the input reads as it did. -/
def viewsNextUptoRow : OpenClaim := { program := "ythibjdbjkkejeaa", sum := "3d88a763eb89a0ef4efbfd9e4ffd4906a66b866399efc388589e782931f7b3fd", func := "consistory/consistorylaw06.ViewsNext", spec := "viewsNext", apart := false, narrowed := true }
def ViewsNextUptoSaid : Prop := viewsNextUptoRow.holds Try.pinned (OpenSpec.upto viewsNextSpec)

/-- 'consistorylaw06.ViewsLeads', WHERE WHAT IT READS IS OF BULK AT MOST 1048576: true; the input reads as it did. -/
def viewsLeadsUptoRow : OpenClaim := { program := "ythibjdbjkkejeaa", sum := "3d88a763eb89a0ef4efbfd9e4ffd4906a66b866399efc388589e782931f7b3fd", func := "consistory/consistorylaw06.ViewsLeads", spec := "viewsLeads", apart := false, narrowed := true }
def ViewsLeadsUptoSaid : Prop := viewsLeadsUptoRow.holds Try.pinned (OpenSpec.upto viewsLeadsSpec)

end Rows
end Go.Proofs.Ythibjdbjkkejeaa
