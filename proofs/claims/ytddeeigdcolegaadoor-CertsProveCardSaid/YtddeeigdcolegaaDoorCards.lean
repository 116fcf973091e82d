/-
  DERIVED. GIVEN WITH THE SEED: THE CARDS: each row of YtddeeigdcolegaaDoorRows.lean that lists a variable, with what it lists TIED to the program's text (the seventh form; the later family's looks); each row that meets fmt, with fmt's text TOLD by the authors' own Lean function (tested against real Go, not proved from fmt's source: count such statements apart). THE CARD IS WHAT COUNTS. Prove the row's statement (the work); the ties are given (YtddeeigdcolegaaDoorTie.lean); close each card by the builder's one call (the guide's Derived/Test/ToyasCard.lean, 'card_holds'). Laid BY PROGRAM, IN A SANDBOX (cutbox-door.mjs). By AI agents, Wed Nov 11 2026. No macro, syntax, notation, axiom, sorry.
-/
import Derived.Test.YtddeeigdcolegaaDoorRows
import GoSem.ClaimSeven
namespace Go.Proofs.YtddeeigdcolegaaDoor
namespace Rows

/-- THE TIED CARD OF 'consistorylaw17.CertsWho'. -/
def certsWhoCard : Claim7 := { stood := { row := certsWhoRow, standIns := [], harness := (true, "7ae38e882a154ec85ccc1ac016e100fcfbab9a3888f9bc00c360ebba55325382"), looks := true }, kinds := [], alts := [], laidByText := true, laidKinds := [.data], laidTests := true, laidLooks := .later }
def CertsWhoCardSaid : Prop := Claim7.holds Tryd.pinned (.plain (OpenSpec.ofChange certsWhoSpec)) certsWhoCard

/-- THE TIED CARD OF 'consistorylaw17.CertsProve'. -/
def certsProveCard : Claim7 := { stood := { row := certsProveRow, standIns := [], harness := (true, "7ae38e882a154ec85ccc1ac016e100fcfbab9a3888f9bc00c360ebba55325382"), looks := true }, kinds := [], alts := [], laidByText := true, laidKinds := [.data], laidTests := true, laidLooks := .later }
def CertsProveCardSaid : Prop := Claim7.holds Tryd.pinned (.plain (OpenSpec.ofChange certsProveSpec)) certsProveCard

/-- THE TIED CARD OF 'consistorylaw17.CertsShare'. -/
def certsShareCard : Claim7 := { stood := { row := certsShareRow, standIns := [], harness := (true, "7ae38e882a154ec85ccc1ac016e100fcfbab9a3888f9bc00c360ebba55325382"), looks := true }, kinds := [], alts := [], laidByText := true, laidKinds := [.data], laidTests := true, laidLooks := .later }
def CertsShareCardSaid : Prop := Claim7.holds Tryd.pinned (.plain (OpenSpec.ofChange certsShareSpec)) certsShareCard

/-- THE TIED CARD OF 'consistorylaw17.CertsMore'. -/
def certsMoreCard : Claim7 := { stood := { row := certsMoreRow, standIns := [], harness := (true, "7ae38e882a154ec85ccc1ac016e100fcfbab9a3888f9bc00c360ebba55325382"), looks := true }, kinds := [], alts := [], laidByText := true, laidKinds := [.data], laidTests := true, laidLooks := .later }
def CertsMoreCardSaid : Prop := Claim7.holds Tryd.pinned (.plain (OpenSpec.ofChange certsMoreSpec)) certsMoreCard

/-- THE TIED CARD OF 'consistorylaw17.CertsLeast'. -/
def certsLeastCard : Claim7 := { stood := { row := certsLeastRow, standIns := [], harness := (true, "7ae38e882a154ec85ccc1ac016e100fcfbab9a3888f9bc00c360ebba55325382"), looks := true }, kinds := [], alts := [], laidByText := true, laidKinds := [.data], laidTests := true, laidLooks := .later }
def CertsLeastCardSaid : Prop := Claim7.holds Tryd.pinned (.plain (OpenSpec.ofChange certsLeastSpec)) certsLeastCard

/-- THE SECOND FORM's CARD OF 'consistorylaw17.CertsWho'. -/
def certsWhoUptoCard : Claim7 := { stood := { row := certsWhoUptoRow, standIns := [], harness := (true, "7ae38e882a154ec85ccc1ac016e100fcfbab9a3888f9bc00c360ebba55325382"), looks := true }, kinds := [], alts := [], laidByText := true, laidKinds := [.data], laidTests := true, laidLooks := .later }
def CertsWhoUptoCardSaid : Prop := Claim7.holds Tryd.pinned (.plain (OpenSpec.upto certsWhoSpec)) certsWhoUptoCard

/-- THE SECOND FORM's CARD OF 'consistorylaw17.CertsProve'. -/
def certsProveUptoCard : Claim7 := { stood := { row := certsProveUptoRow, standIns := [], harness := (true, "7ae38e882a154ec85ccc1ac016e100fcfbab9a3888f9bc00c360ebba55325382"), looks := true }, kinds := [], alts := [], laidByText := true, laidKinds := [.data], laidTests := true, laidLooks := .later }
def CertsProveUptoCardSaid : Prop := Claim7.holds Tryd.pinned (.plain (OpenSpec.upto certsProveSpec)) certsProveUptoCard

/-- THE SECOND FORM's CARD OF 'consistorylaw17.CertsShare'. -/
def certsShareUptoCard : Claim7 := { stood := { row := certsShareUptoRow, standIns := [], harness := (true, "7ae38e882a154ec85ccc1ac016e100fcfbab9a3888f9bc00c360ebba55325382"), looks := true }, kinds := [], alts := [], laidByText := true, laidKinds := [.data], laidTests := true, laidLooks := .later }
def CertsShareUptoCardSaid : Prop := Claim7.holds Tryd.pinned (.plain (OpenSpec.upto certsShareSpec)) certsShareUptoCard

/-- THE SECOND FORM's CARD OF 'consistorylaw17.CertsMore'. -/
def certsMoreUptoCard : Claim7 := { stood := { row := certsMoreUptoRow, standIns := [], harness := (true, "7ae38e882a154ec85ccc1ac016e100fcfbab9a3888f9bc00c360ebba55325382"), looks := true }, kinds := [], alts := [], laidByText := true, laidKinds := [.data], laidTests := true, laidLooks := .later }
def CertsMoreUptoCardSaid : Prop := Claim7.holds Tryd.pinned (.plain (OpenSpec.upto certsMoreSpec)) certsMoreUptoCard

/-- THE SECOND FORM's CARD OF 'consistorylaw17.CertsLeast'. -/
def certsLeastUptoCard : Claim7 := { stood := { row := certsLeastUptoRow, standIns := [], harness := (true, "7ae38e882a154ec85ccc1ac016e100fcfbab9a3888f9bc00c360ebba55325382"), looks := true }, kinds := [], alts := [], laidByText := true, laidKinds := [.data], laidTests := true, laidLooks := .later }
def CertsLeastUptoCardSaid : Prop := Claim7.holds Tryd.pinned (.plain (OpenSpec.upto certsLeastSpec)) certsLeastUptoCard
end Rows
end Go.Proofs.YtddeeigdcolegaaDoor
