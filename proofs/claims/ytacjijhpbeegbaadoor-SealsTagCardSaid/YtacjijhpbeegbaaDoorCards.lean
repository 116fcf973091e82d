/-
  DERIVED. GIVEN WITH THE SEED: THE CARDS: each row of YtacjijhpbeegbaaDoorRows.lean that lists a variable, with what it lists TIED to the program's text (the seventh form; the later family's looks); each row that meets fmt, with fmt's text TOLD by the authors' own Lean function (tested against real Go, not proved from fmt's source: count such statements apart). THE CARD IS WHAT COUNTS. Prove the row's statement (the work); the ties are given (YtacjijhpbeegbaaDoorTie.lean); close each card by the builder's one call (the guide's Derived/Test/ToyasCard.lean, 'card_holds'). Laid BY PROGRAM, IN A SANDBOX (cutbox-door.mjs). By AI agents, Wed Nov 11 2026. No macro, syntax, notation, axiom, sorry.
-/
import Derived.Test.YtacjijhpbeegbaaDoorRows
import GoSem.ClaimSeven
namespace Go.Proofs.YtacjijhpbeegbaaDoor
namespace Rows

/-- THE TIED CARD OF 'consistorylaw09.SealsSeal'. -/
def sealsSealCard : Claim7 := { stood := { row := sealsSealRow, standIns := [], harness := (true, "48f8b77ffa1af63f11ca867c6253a3c893936eaeb1f664f9667640dd810897e8"), looks := true }, kinds := [], alts := [], laidByText := true, laidKinds := [.data], laidTests := true, laidLooks := .later }
def SealsSealCardSaid : Prop := Claim7.holds Tryd.pinned (.plain (OpenSpec.ofChange sealsSealSpec)) sealsSealCard

/-- THE TIED CARD OF 'consistorylaw09.SealsOther'. -/
def sealsOtherCard : Claim7 := { stood := { row := sealsOtherRow, standIns := [], harness := (true, "48f8b77ffa1af63f11ca867c6253a3c893936eaeb1f664f9667640dd810897e8"), looks := true }, kinds := [], alts := [], laidByText := true, laidKinds := [.data], laidTests := true, laidLooks := .later }
def SealsOtherCardSaid : Prop := Claim7.holds Tryd.pinned (.plain (OpenSpec.ofChange sealsOtherSpec)) sealsOtherCard

/-- THE TIED CARD OF 'consistorylaw09.SealsTag'. -/
def sealsTagCard : Claim7 := { stood := { row := sealsTagRow, standIns := [], harness := (true, "48f8b77ffa1af63f11ca867c6253a3c893936eaeb1f664f9667640dd810897e8"), looks := true }, kinds := [], alts := [], laidByText := true, laidKinds := [.data], laidTests := true, laidLooks := .later }
def SealsTagCardSaid : Prop := Claim7.holds Tryd.pinned (.plain (OpenSpec.ofChange sealsTagSpec)) sealsTagCard

/-- THE SECOND FORM's CARD OF 'consistorylaw09.SealsSeal'. -/
def sealsSealUptoCard : Claim7 := { stood := { row := sealsSealUptoRow, standIns := [], harness := (true, "48f8b77ffa1af63f11ca867c6253a3c893936eaeb1f664f9667640dd810897e8"), looks := true }, kinds := [], alts := [], laidByText := true, laidKinds := [.data], laidTests := true, laidLooks := .later }
def SealsSealUptoCardSaid : Prop := Claim7.holds Tryd.pinned (.plain (OpenSpec.upto sealsSealSpec)) sealsSealUptoCard

/-- THE SECOND FORM's CARD OF 'consistorylaw09.SealsOther'. -/
def sealsOtherUptoCard : Claim7 := { stood := { row := sealsOtherUptoRow, standIns := [], harness := (true, "48f8b77ffa1af63f11ca867c6253a3c893936eaeb1f664f9667640dd810897e8"), looks := true }, kinds := [], alts := [], laidByText := true, laidKinds := [.data], laidTests := true, laidLooks := .later }
def SealsOtherUptoCardSaid : Prop := Claim7.holds Tryd.pinned (.plain (OpenSpec.upto sealsOtherSpec)) sealsOtherUptoCard

/-- THE SECOND FORM's CARD OF 'consistorylaw09.SealsTag'. -/
def sealsTagUptoCard : Claim7 := { stood := { row := sealsTagUptoRow, standIns := [], harness := (true, "48f8b77ffa1af63f11ca867c6253a3c893936eaeb1f664f9667640dd810897e8"), looks := true }, kinds := [], alts := [], laidByText := true, laidKinds := [.data], laidTests := true, laidLooks := .later }
def SealsTagUptoCardSaid : Prop := Claim7.holds Tryd.pinned (.plain (OpenSpec.upto sealsTagSpec)) sealsTagUptoCard
end Rows
end Go.Proofs.YtacjijhpbeegbaaDoor
