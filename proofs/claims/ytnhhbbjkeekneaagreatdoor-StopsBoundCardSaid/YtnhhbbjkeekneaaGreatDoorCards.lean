/-
  DERIVED. GIVEN WITH THE SEED: THE CARDS: each row of YtnhhbbjkeekneaaGreatDoorRows.lean that lists a variable, with what it lists TIED to the program's text (the seventh form; the later family's looks); each row that meets fmt, with fmt's text TOLD by the authors' own Lean function (tested against real Go, not proved from fmt's source: count such statements apart). THE CARD IS WHAT COUNTS. Prove the row's statement (the work); the ties are given (YtnhhbbjkeekneaaGreatDoorTie.lean); close each card by the builder's one call (the guide's Derived/Test/ToyasCard.lean, 'card_holds'). Laid BY PROGRAM, IN A SANDBOX (cutbox-door.mjs). By AI agents, Wed Nov 11 2026. No macro, syntax, notation, axiom, sorry.
-/
import Derived.Test.YtnhhbbjkeekneaaGreatDoorRows
import GoSem.ClaimSeven
namespace Go.Proofs.YtnhhbbjkeekneaaGreatDoor
namespace Rows

/-- THE TIED CARD OF 'consistorylaw19.StopsChoose'. -/
def stopsChooseCard : Claim7 := { stood := { row := stopsChooseRow, standIns := [], harness := (true, "028ef4872bf4895da78c431031a1a9f87d2fbabfa4a9501c8b934bc3fdc09588"), looks := true }, kinds := [], alts := [], laidByText := true, laidKinds := [.data], laidTests := true, laidLooks := .later }
def StopsChooseCardSaid : Prop := Claim7.holds Tryz.pinned (.plain (OpenSpec.ofChange stopsChooseSpec)) stopsChooseCard

/-- THE TIED CARD OF 'consistorylaw19.StopsBound'. -/
def stopsBoundCard : Claim7 := { stood := { row := stopsBoundRow, standIns := [], harness := (true, "028ef4872bf4895da78c431031a1a9f87d2fbabfa4a9501c8b934bc3fdc09588"), looks := true }, kinds := [], alts := [], laidByText := true, laidKinds := [.data], laidTests := true, laidLooks := .later }
def StopsBoundCardSaid : Prop := Claim7.holds Tryz.pinned (.plain (OpenSpec.ofChange stopsBoundSpec)) stopsBoundCard

/-- THE SECOND FORM's CARD OF 'consistorylaw19.StopsChoose'. -/
def stopsChooseUptoCard : Claim7 := { stood := { row := stopsChooseUptoRow, standIns := [], harness := (true, "028ef4872bf4895da78c431031a1a9f87d2fbabfa4a9501c8b934bc3fdc09588"), looks := true }, kinds := [], alts := [], laidByText := true, laidKinds := [.data], laidTests := true, laidLooks := .later }
def StopsChooseUptoCardSaid : Prop := Claim7.holds Tryz.pinned (.plain (OpenSpec.upto stopsChooseSpec)) stopsChooseUptoCard

/-- THE SECOND FORM's CARD OF 'consistorylaw19.StopsBound'. -/
def stopsBoundUptoCard : Claim7 := { stood := { row := stopsBoundUptoRow, standIns := [], harness := (true, "028ef4872bf4895da78c431031a1a9f87d2fbabfa4a9501c8b934bc3fdc09588"), looks := true }, kinds := [], alts := [], laidByText := true, laidKinds := [.data], laidTests := true, laidLooks := .later }
def StopsBoundUptoCardSaid : Prop := Claim7.holds Tryz.pinned (.plain (OpenSpec.upto stopsBoundSpec)) stopsBoundUptoCard
end Rows
end Go.Proofs.YtnhhbbjkeekneaaGreatDoor
