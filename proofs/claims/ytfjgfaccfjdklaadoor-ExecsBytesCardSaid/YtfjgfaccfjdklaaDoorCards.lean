/-
  DERIVED. GIVEN WITH THE SEED: THE CARDS: each row of YtfjgfaccfjdklaaDoorRows.lean that lists a variable, with what it lists TIED to the program's text (the seventh form; the later family's looks); each row that meets fmt, with fmt's text TOLD by the authors' own Lean function (tested against real Go, not proved from fmt's source: count such statements apart). THE CARD IS WHAT COUNTS. Prove the row's statement (the work); the ties are given (YtfjgfaccfjdklaaDoorTie.lean); close each card by the builder's one call (the guide's Derived/Test/ToyasCard.lean, 'card_holds'). Laid BY PROGRAM, IN A SANDBOX (cutbox-door.mjs). By AI agents, Wed Nov 11 2026. No macro, syntax, notation, axiom, sorry.
-/
import Derived.Test.YtfjgfaccfjdklaaDoorRows
import GoSem.ClaimSeven
namespace Go.Proofs.YtfjgfaccfjdklaaDoor
namespace Rows

/-- THE TIED CARD OF 'consistorylaw15.ExecsBytes'. -/
def execsBytesCard : Claim7 := { stood := { row := execsBytesRow, standIns := [], harness := (true, "dcfae90b57b67ce7b11afde7c4bee309350dfa2a5ef9278e1cceb11d48a6144b"), looks := false }, kinds := [], alts := [], laidByText := true, laidKinds := [.data], laidTests := true, laidLooks := .later }
def ExecsBytesCardSaid : Prop := Claim7.holds Tryd.pinned (.plain (OpenSpec.ofChange execsBytesSpec)) execsBytesCard

/-- THE SECOND FORM's CARD OF 'consistorylaw15.ExecsBytes'. -/
def execsBytesUptoCard : Claim7 := { stood := { row := execsBytesUptoRow, standIns := [], harness := (true, "dcfae90b57b67ce7b11afde7c4bee309350dfa2a5ef9278e1cceb11d48a6144b"), looks := false }, kinds := [], alts := [], laidByText := true, laidKinds := [.data], laidTests := true, laidLooks := .later }
def ExecsBytesUptoCardSaid : Prop := Claim7.holds Tryd.pinned (.plain (OpenSpec.upto execsBytesSpec)) execsBytesUptoCard
end Rows
end Go.Proofs.YtfjgfaccfjdklaaDoor
