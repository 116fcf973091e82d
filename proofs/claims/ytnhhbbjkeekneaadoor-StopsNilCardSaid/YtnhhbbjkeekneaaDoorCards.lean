/-
  DERIVED. GIVEN WITH THE SEED: THE CARDS: each row of YtnhhbbjkeekneaaDoorRows.lean that lists a variable, with what it lists TIED to the program's text (the seventh form; the later family's looks); each row that meets fmt, with fmt's text TOLD by the authors' own Lean function (tested against real Go, not proved from fmt's source: count such statements apart). THE CARD IS WHAT COUNTS. Prove the row's statement (the work); the ties are given (YtnhhbbjkeekneaaDoorTie.lean); close each card by the builder's one call (the guide's Derived/Test/ToyasCard.lean, 'card_holds'). Laid BY PROGRAM, IN A SANDBOX (cutbox-door.mjs). By AI agents, Wed Nov 11 2026. No macro, syntax, notation, axiom, sorry.
-/
import Derived.Test.YtnhhbbjkeekneaaDoorRows
import GoSem.ClaimSeven
namespace Go.Proofs.YtnhhbbjkeekneaaDoor
namespace Rows

/-- THE TIED CARD OF 'consistorylaw19.StopsLeast'. -/
def stopsLeastCard : Claim7 := { stood := { row := stopsLeastRow, standIns := [], harness := (true, "6d63154d0a28269d1a640809161b84fd7254f891ec9ff02591ac9170cc1c372e"), looks := true }, kinds := [], alts := [], laidByText := true, laidKinds := [.data], laidTests := true, laidLooks := .later }
def StopsLeastCardSaid : Prop := Claim7.holds Tryd.pinned (.plain (OpenSpec.ofChange stopsLeastSpec)) stopsLeastCard

/-- THE TIED CARD OF 'consistorylaw19.StopsNil'. -/
def stopsNilCard : Claim7 := { stood := { row := stopsNilRow, standIns := [], harness := (true, "6d63154d0a28269d1a640809161b84fd7254f891ec9ff02591ac9170cc1c372e"), looks := true }, kinds := [], alts := [], laidByText := true, laidKinds := [.data], laidTests := true, laidLooks := .later }
def StopsNilCardSaid : Prop := Claim7.holds Tryd.pinned (.plain (OpenSpec.ofChange stopsNilSpec)) stopsNilCard

/-- THE SECOND FORM's CARD OF 'consistorylaw19.StopsLeast'. -/
def stopsLeastUptoCard : Claim7 := { stood := { row := stopsLeastUptoRow, standIns := [], harness := (true, "6d63154d0a28269d1a640809161b84fd7254f891ec9ff02591ac9170cc1c372e"), looks := true }, kinds := [], alts := [], laidByText := true, laidKinds := [.data], laidTests := true, laidLooks := .later }
def StopsLeastUptoCardSaid : Prop := Claim7.holds Tryd.pinned (.plain (OpenSpec.upto stopsLeastSpec)) stopsLeastUptoCard

/-- THE SECOND FORM's CARD OF 'consistorylaw19.StopsNil'. -/
def stopsNilUptoCard : Claim7 := { stood := { row := stopsNilUptoRow, standIns := [], harness := (true, "6d63154d0a28269d1a640809161b84fd7254f891ec9ff02591ac9170cc1c372e"), looks := true }, kinds := [], alts := [], laidByText := true, laidKinds := [.data], laidTests := true, laidLooks := .later }
def StopsNilUptoCardSaid : Prop := Claim7.holds Tryd.pinned (.plain (OpenSpec.upto stopsNilSpec)) stopsNilUptoCard
end Rows
end Go.Proofs.YtnhhbbjkeekneaaDoor
