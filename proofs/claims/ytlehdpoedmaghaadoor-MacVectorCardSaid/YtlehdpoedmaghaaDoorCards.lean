/-
  DERIVED. GIVEN WITH THE SEED: THE CARDS: each row of YtlehdpoedmaghaaDoorRows.lean that lists a variable, with what it lists TIED to the program's text (the seventh form; the later family's looks); each row that meets fmt, with fmt's text TOLD by the authors' own Lean function (tested against real Go, not proved from fmt's source: count such statements apart). THE CARD IS WHAT COUNTS. Prove the row's statement (the work); the ties are given (YtlehdpoedmaghaaDoorTie.lean); close each card by the builder's one call (the guide's Derived/Test/ToyasCard.lean, 'card_holds'). Laid BY PROGRAM, IN A SANDBOX (cutbox-door.mjs). By AI agents, Wed Nov 11 2026. No macro, syntax, notation, axiom, sorry.
-/
import Derived.Test.YtlehdpoedmaghaaDoorRows
import GoSem.ClaimSeven
namespace Go.Proofs.YtlehdpoedmaghaaDoor
namespace Rows

/-- THE TIED CARD OF 'consistorylaw03.MacTag'. -/
def macTagCard : Claim7 := { stood := { row := macTagRow, standIns := [], harness := (true, "807447fc20b28bacc500878d33eedb44c4916a04906a506c52be1ffdd3fe306e"), looks := false }, kinds := [], alts := [], laidByText := true, laidKinds := [.data], laidTests := true, laidLooks := .later }
def MacTagCardSaid : Prop := Claim7.holds Tryd.pinned (.plain (OpenSpec.ofChange macTagSpec)) macTagCard

/-- THE TIED CARD OF 'consistorylaw03.MacCheck'. -/
def macCheckCard : Claim7 := { stood := { row := macCheckRow, standIns := [], harness := (true, "807447fc20b28bacc500878d33eedb44c4916a04906a506c52be1ffdd3fe306e"), looks := false }, kinds := [], alts := [], laidByText := true, laidKinds := [.data], laidTests := true, laidLooks := .later }
def MacCheckCardSaid : Prop := Claim7.holds Tryd.pinned (.plain (OpenSpec.ofChange macCheckSpec)) macCheckCard

/-- THE TIED CARD OF 'consistorylaw03.MacVector'. -/
def macVectorCard : Claim7 := { stood := { row := macVectorRow, standIns := [], harness := (true, "807447fc20b28bacc500878d33eedb44c4916a04906a506c52be1ffdd3fe306e"), looks := false }, kinds := [], alts := [], laidByText := true, laidKinds := [.data], laidTests := true, laidLooks := .later }
def MacVectorCardSaid : Prop := Claim7.holds Tryd.pinned (.plain (OpenSpec.ofChange macVectorSpec)) macVectorCard

/-- THE TIED CARD OF 'consistorylaw03.MacDerive'. -/
def macDeriveCard : Claim7 := { stood := { row := macDeriveRow, standIns := [], harness := (true, "807447fc20b28bacc500878d33eedb44c4916a04906a506c52be1ffdd3fe306e"), looks := false }, kinds := [], alts := [], laidByText := true, laidKinds := [.data], laidTests := true, laidLooks := .later }
def MacDeriveCardSaid : Prop := Claim7.holds Tryd.pinned (.plain (OpenSpec.ofChange macDeriveSpec)) macDeriveCard

/-- THE SECOND FORM's CARD OF 'consistorylaw03.MacTag'. -/
def macTagUptoCard : Claim7 := { stood := { row := macTagUptoRow, standIns := [], harness := (true, "807447fc20b28bacc500878d33eedb44c4916a04906a506c52be1ffdd3fe306e"), looks := false }, kinds := [], alts := [], laidByText := true, laidKinds := [.data], laidTests := true, laidLooks := .later }
def MacTagUptoCardSaid : Prop := Claim7.holds Tryd.pinned (.plain (OpenSpec.upto macTagSpec)) macTagUptoCard

/-- THE SECOND FORM's CARD OF 'consistorylaw03.MacCheck'. -/
def macCheckUptoCard : Claim7 := { stood := { row := macCheckUptoRow, standIns := [], harness := (true, "807447fc20b28bacc500878d33eedb44c4916a04906a506c52be1ffdd3fe306e"), looks := false }, kinds := [], alts := [], laidByText := true, laidKinds := [.data], laidTests := true, laidLooks := .later }
def MacCheckUptoCardSaid : Prop := Claim7.holds Tryd.pinned (.plain (OpenSpec.upto macCheckSpec)) macCheckUptoCard

/-- THE SECOND FORM's CARD OF 'consistorylaw03.MacVector'. -/
def macVectorUptoCard : Claim7 := { stood := { row := macVectorUptoRow, standIns := [], harness := (true, "807447fc20b28bacc500878d33eedb44c4916a04906a506c52be1ffdd3fe306e"), looks := false }, kinds := [], alts := [], laidByText := true, laidKinds := [.data], laidTests := true, laidLooks := .later }
def MacVectorUptoCardSaid : Prop := Claim7.holds Tryd.pinned (.plain (OpenSpec.upto macVectorSpec)) macVectorUptoCard

/-- THE SECOND FORM's CARD OF 'consistorylaw03.MacDerive'. -/
def macDeriveUptoCard : Claim7 := { stood := { row := macDeriveUptoRow, standIns := [], harness := (true, "807447fc20b28bacc500878d33eedb44c4916a04906a506c52be1ffdd3fe306e"), looks := false }, kinds := [], alts := [], laidByText := true, laidKinds := [.data], laidTests := true, laidLooks := .later }
def MacDeriveUptoCardSaid : Prop := Claim7.holds Tryd.pinned (.plain (OpenSpec.upto macDeriveSpec)) macDeriveUptoCard
end Rows
end Go.Proofs.YtlehdpoedmaghaaDoor
