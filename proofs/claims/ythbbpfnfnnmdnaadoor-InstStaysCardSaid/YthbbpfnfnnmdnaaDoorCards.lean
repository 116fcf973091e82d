/-
  DERIVED. GIVEN WITH THE SEED: THE CARDS: each row of YthbbpfnfnnmdnaaDoorRows.lean that lists a variable, with what it lists TIED to the program's text (the seventh form; the later family's looks); each row that meets fmt, with fmt's text TOLD by the authors' own Lean function (tested against real Go, not proved from fmt's source: count such statements apart). THE CARD IS WHAT COUNTS. Prove the row's statement (the work); the ties are given (YthbbpfnfnnmdnaaDoorTie.lean); close each card by the builder's one call (the guide's Derived/Test/ToyasCard.lean, 'card_holds'). Laid BY PROGRAM, IN A SANDBOX (cutbox-door.mjs). By AI agents, Wed Nov 11 2026. No macro, syntax, notation, axiom, sorry.
-/
import Derived.Test.YthbbpfnfnnmdnaaDoorRows
import GoSem.ClaimSeven
namespace Go.Proofs.YthbbpfnfnnmdnaaDoor
namespace Rows

/-- THE TIED CARD OF 'consistorylaw18.InstProves'. -/
def instProvesCard : Claim7 := { stood := { row := instProvesRow, standIns := [], harness := (true, "e271ee867d21eb11339dcc22a5e6ac6c0906ef5cc8c987a55b49c941c6040df4"), looks := true }, kinds := [], alts := [], laidByText := true, laidKinds := [.data], laidTests := true, laidLooks := .later }
def InstProvesCardSaid : Prop := Claim7.holds Tryd.pinned (.plain (OpenSpec.ofChange instProvesSpec)) instProvesCard

/-- THE TIED CARD OF 'consistorylaw18.InstOrder'. -/
def instOrderCard : Claim7 := { stood := { row := instOrderRow, standIns := [], harness := (true, "e271ee867d21eb11339dcc22a5e6ac6c0906ef5cc8c987a55b49c941c6040df4"), looks := true }, kinds := [], alts := [], laidByText := true, laidKinds := [.data], laidTests := true, laidLooks := .later }
def InstOrderCardSaid : Prop := Claim7.holds Tryd.pinned (.plain (OpenSpec.ofChange instOrderSpec)) instOrderCard

/-- THE TIED CARD OF 'consistorylaw18.InstStays'. -/
def instStaysCard : Claim7 := { stood := { row := instStaysRow, standIns := [], harness := (true, "e271ee867d21eb11339dcc22a5e6ac6c0906ef5cc8c987a55b49c941c6040df4"), looks := true }, kinds := [], alts := [], laidByText := true, laidKinds := [.data], laidTests := true, laidLooks := .later }
def InstStaysCardSaid : Prop := Claim7.holds Tryd.pinned (.plain (OpenSpec.ofChange instStaysSpec)) instStaysCard

/-- THE TIED CARD OF 'consistorylaw18.InstNil'. -/
def instNilCard : Claim7 := { stood := { row := instNilRow, standIns := [], harness := (true, "e271ee867d21eb11339dcc22a5e6ac6c0906ef5cc8c987a55b49c941c6040df4"), looks := true }, kinds := [], alts := [], laidByText := true, laidKinds := [.data], laidTests := true, laidLooks := .later }
def InstNilCardSaid : Prop := Claim7.holds Tryd.pinned (.plain (OpenSpec.ofChange instNilSpec)) instNilCard

/-- THE SECOND FORM's CARD OF 'consistorylaw18.InstProves'. -/
def instProvesUptoCard : Claim7 := { stood := { row := instProvesUptoRow, standIns := [], harness := (true, "e271ee867d21eb11339dcc22a5e6ac6c0906ef5cc8c987a55b49c941c6040df4"), looks := true }, kinds := [], alts := [], laidByText := true, laidKinds := [.data], laidTests := true, laidLooks := .later }
def InstProvesUptoCardSaid : Prop := Claim7.holds Tryd.pinned (.plain (OpenSpec.upto instProvesSpec)) instProvesUptoCard

/-- THE SECOND FORM's CARD OF 'consistorylaw18.InstOrder'. -/
def instOrderUptoCard : Claim7 := { stood := { row := instOrderUptoRow, standIns := [], harness := (true, "e271ee867d21eb11339dcc22a5e6ac6c0906ef5cc8c987a55b49c941c6040df4"), looks := true }, kinds := [], alts := [], laidByText := true, laidKinds := [.data], laidTests := true, laidLooks := .later }
def InstOrderUptoCardSaid : Prop := Claim7.holds Tryd.pinned (.plain (OpenSpec.upto instOrderSpec)) instOrderUptoCard

/-- THE SECOND FORM's CARD OF 'consistorylaw18.InstStays'. -/
def instStaysUptoCard : Claim7 := { stood := { row := instStaysUptoRow, standIns := [], harness := (true, "e271ee867d21eb11339dcc22a5e6ac6c0906ef5cc8c987a55b49c941c6040df4"), looks := true }, kinds := [], alts := [], laidByText := true, laidKinds := [.data], laidTests := true, laidLooks := .later }
def InstStaysUptoCardSaid : Prop := Claim7.holds Tryd.pinned (.plain (OpenSpec.upto instStaysSpec)) instStaysUptoCard

/-- THE SECOND FORM's CARD OF 'consistorylaw18.InstNil'. -/
def instNilUptoCard : Claim7 := { stood := { row := instNilUptoRow, standIns := [], harness := (true, "e271ee867d21eb11339dcc22a5e6ac6c0906ef5cc8c987a55b49c941c6040df4"), looks := true }, kinds := [], alts := [], laidByText := true, laidKinds := [.data], laidTests := true, laidLooks := .later }
def InstNilUptoCardSaid : Prop := Claim7.holds Tryd.pinned (.plain (OpenSpec.upto instNilSpec)) instNilUptoCard
end Rows
end Go.Proofs.YthbbpfnfnnmdnaaDoor
