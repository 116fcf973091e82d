/-
  DERIVED. GIVEN WITH THE SEED: THE CARDS: each row of YtigojjdoacfdgaaDoorRows.lean that lists a variable, with what it lists TIED to the program's text (the seventh form; the later family's looks); each row that meets fmt, with fmt's text TOLD by the authors' own Lean function (tested against real Go, not proved from fmt's source: count such statements apart). THE CARD IS WHAT COUNTS. Prove the row's statement (the work); the ties are given (YtigojjdoacfdgaaDoorTie.lean); close each card by the builder's one call (the guide's Derived/Test/ToyasCard.lean, 'card_holds'). Laid BY PROGRAM, IN A SANDBOX (cutbox-door.mjs). By AI agents, Wed Nov 11 2026. No macro, syntax, notation, axiom, sorry.
-/
import Derived.Test.YtigojjdoacfdgaaDoorRows
import GoSem.ClaimSeven
namespace Go.Proofs.YtigojjdoacfdgaaDoor
namespace Rows

/-- THE TIED CARD OF 'consistorylaw04.OtsSigns'. -/
def otsSignsCard : Claim7 := { stood := { row := otsSignsRow, standIns := [], harness := (true, "5b21aa49c859522f87e134f88dc2ddbfd4c0e85365058f903166927df4f93a0c"), looks := false }, kinds := [], alts := [], laidByText := true, laidKinds := [.data], laidTests := true, laidLooks := .later }
def OtsSignsCardSaid : Prop := Claim7.holds Tryd.pinned (.plain (OpenSpec.ofChange otsSignsSpec)) otsSignsCard

/-- THE TIED CARD OF 'consistorylaw04.OtsRecovers'. -/
def otsRecoversCard : Claim7 := { stood := { row := otsRecoversRow, standIns := [], harness := (true, "5b21aa49c859522f87e134f88dc2ddbfd4c0e85365058f903166927df4f93a0c"), looks := false }, kinds := [], alts := [], laidByText := true, laidKinds := [.data], laidTests := true, laidLooks := .later }
def OtsRecoversCardSaid : Prop := Claim7.holds Tryd.pinned (.plain (OpenSpec.ofChange otsRecoversSpec)) otsRecoversCard

/-- THE TIED CARD OF 'consistorylaw04.OtsOther'. -/
def otsOtherCard : Claim7 := { stood := { row := otsOtherRow, standIns := [], harness := (true, "5b21aa49c859522f87e134f88dc2ddbfd4c0e85365058f903166927df4f93a0c"), looks := false }, kinds := [], alts := [], laidByText := true, laidKinds := [.data], laidTests := true, laidLooks := .later }
def OtsOtherCardSaid : Prop := Claim7.holds Tryd.pinned (.plain (OpenSpec.ofChange otsOtherSpec)) otsOtherCard

/-- THE SECOND FORM's CARD OF 'consistorylaw04.OtsSigns'. -/
def otsSignsUptoCard : Claim7 := { stood := { row := otsSignsUptoRow, standIns := [], harness := (true, "5b21aa49c859522f87e134f88dc2ddbfd4c0e85365058f903166927df4f93a0c"), looks := false }, kinds := [], alts := [], laidByText := true, laidKinds := [.data], laidTests := true, laidLooks := .later }
def OtsSignsUptoCardSaid : Prop := Claim7.holds Tryd.pinned (.plain (OpenSpec.upto otsSignsSpec)) otsSignsUptoCard

/-- THE SECOND FORM's CARD OF 'consistorylaw04.OtsRecovers'. -/
def otsRecoversUptoCard : Claim7 := { stood := { row := otsRecoversUptoRow, standIns := [], harness := (true, "5b21aa49c859522f87e134f88dc2ddbfd4c0e85365058f903166927df4f93a0c"), looks := false }, kinds := [], alts := [], laidByText := true, laidKinds := [.data], laidTests := true, laidLooks := .later }
def OtsRecoversUptoCardSaid : Prop := Claim7.holds Tryd.pinned (.plain (OpenSpec.upto otsRecoversSpec)) otsRecoversUptoCard

/-- THE SECOND FORM's CARD OF 'consistorylaw04.OtsOther'. -/
def otsOtherUptoCard : Claim7 := { stood := { row := otsOtherUptoRow, standIns := [], harness := (true, "5b21aa49c859522f87e134f88dc2ddbfd4c0e85365058f903166927df4f93a0c"), looks := false }, kinds := [], alts := [], laidByText := true, laidKinds := [.data], laidTests := true, laidLooks := .later }
def OtsOtherUptoCardSaid : Prop := Claim7.holds Tryd.pinned (.plain (OpenSpec.upto otsOtherSpec)) otsOtherUptoCard
end Rows
end Go.Proofs.YtigojjdoacfdgaaDoor
