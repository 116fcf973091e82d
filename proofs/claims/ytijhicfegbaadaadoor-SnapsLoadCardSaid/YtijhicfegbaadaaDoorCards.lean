/-
  DERIVED. GIVEN WITH THE SEED: THE CARDS: each row of YtijhicfegbaadaaDoorRows.lean that lists a variable, with what it lists TIED to the program's text (the seventh form; the later family's looks); each row that meets fmt, with fmt's text TOLD by the authors' own Lean function (tested against real Go, not proved from fmt's source: count such statements apart). THE CARD IS WHAT COUNTS. Prove the row's statement (the work); the ties are given (YtijhicfegbaadaaDoorTie.lean); close each card by the builder's one call (the guide's Derived/Test/ToyasCard.lean, 'card_holds'). Laid BY PROGRAM, IN A SANDBOX (cutbox-door.mjs). By AI agents, Wed Nov 11 2026. No macro, syntax, notation, axiom, sorry.
-/
import Derived.Test.YtijhicfegbaadaaDoorRows
import GoSem.ClaimSeven
namespace Go.Proofs.YtijhicfegbaadaaDoor
namespace Rows

/-- THE TIED CARD OF 'consistorylaw12.SnapsLoad'. -/
def snapsLoadCard : Claim7 := { stood := { row := snapsLoadRow, standIns := [], harness := (true, "b11e0aafd5de3f0f1968d5134a2fef6800488040f585470735d2c8b5c85570bc"), looks := false }, kinds := [], alts := [], laidByText := true, laidKinds := [.data], laidTests := true, laidLooks := .later }
def SnapsLoadCardSaid : Prop := Claim7.holds Tryd.pinned (.plain (OpenSpec.ofChange snapsLoadSpec)) snapsLoadCard

/-- THE TIED CARD OF 'consistorylaw12.SnapsSave'. -/
def snapsSaveCard : Claim7 := { stood := { row := snapsSaveRow, standIns := [], harness := (true, "b11e0aafd5de3f0f1968d5134a2fef6800488040f585470735d2c8b5c85570bc"), looks := false }, kinds := [], alts := [], laidByText := true, laidKinds := [.data], laidTests := true, laidLooks := .later }
def SnapsSaveCardSaid : Prop := Claim7.holds Tryd.pinned (.plain (OpenSpec.ofChange snapsSaveSpec)) snapsSaveCard

/-- THE TIED CARD OF 'consistorylaw12.SnapsCrash'. -/
def snapsCrashCard : Claim7 := { stood := { row := snapsCrashRow, standIns := [], harness := (true, "b11e0aafd5de3f0f1968d5134a2fef6800488040f585470735d2c8b5c85570bc"), looks := false }, kinds := [], alts := [], laidByText := true, laidKinds := [.data], laidTests := true, laidLooks := .later }
def SnapsCrashCardSaid : Prop := Claim7.holds Tryd.pinned (.plain (OpenSpec.ofChange snapsCrashSpec)) snapsCrashCard

/-- THE TIED CARD OF 'consistorylaw12.SnapsHalf'. -/
def snapsHalfCard : Claim7 := { stood := { row := snapsHalfRow, standIns := [], harness := (true, "b11e0aafd5de3f0f1968d5134a2fef6800488040f585470735d2c8b5c85570bc"), looks := false }, kinds := [], alts := [], laidByText := true, laidKinds := [.data], laidTests := true, laidLooks := .later }
def SnapsHalfCardSaid : Prop := Claim7.holds Tryd.pinned (.plain (OpenSpec.ofChange snapsHalfSpec)) snapsHalfCard

/-- THE TIED CARD OF 'consistorylaw12.SnapsTwo'. -/
def snapsTwoCard : Claim7 := { stood := { row := snapsTwoRow, standIns := [], harness := (true, "b11e0aafd5de3f0f1968d5134a2fef6800488040f585470735d2c8b5c85570bc"), looks := false }, kinds := [], alts := [], laidByText := true, laidKinds := [.data], laidTests := true, laidLooks := .later }
def SnapsTwoCardSaid : Prop := Claim7.holds Tryd.pinned (.plain (OpenSpec.ofChange snapsTwoSpec)) snapsTwoCard

/-- THE SECOND FORM's CARD OF 'consistorylaw12.SnapsLoad'. -/
def snapsLoadUptoCard : Claim7 := { stood := { row := snapsLoadUptoRow, standIns := [], harness := (true, "b11e0aafd5de3f0f1968d5134a2fef6800488040f585470735d2c8b5c85570bc"), looks := false }, kinds := [], alts := [], laidByText := true, laidKinds := [.data], laidTests := true, laidLooks := .later }
def SnapsLoadUptoCardSaid : Prop := Claim7.holds Tryd.pinned (.plain (OpenSpec.upto snapsLoadSpec)) snapsLoadUptoCard

/-- THE SECOND FORM's CARD OF 'consistorylaw12.SnapsSave'. -/
def snapsSaveUptoCard : Claim7 := { stood := { row := snapsSaveUptoRow, standIns := [], harness := (true, "b11e0aafd5de3f0f1968d5134a2fef6800488040f585470735d2c8b5c85570bc"), looks := false }, kinds := [], alts := [], laidByText := true, laidKinds := [.data], laidTests := true, laidLooks := .later }
def SnapsSaveUptoCardSaid : Prop := Claim7.holds Tryd.pinned (.plain (OpenSpec.upto snapsSaveSpec)) snapsSaveUptoCard

/-- THE SECOND FORM's CARD OF 'consistorylaw12.SnapsCrash'. -/
def snapsCrashUptoCard : Claim7 := { stood := { row := snapsCrashUptoRow, standIns := [], harness := (true, "b11e0aafd5de3f0f1968d5134a2fef6800488040f585470735d2c8b5c85570bc"), looks := false }, kinds := [], alts := [], laidByText := true, laidKinds := [.data], laidTests := true, laidLooks := .later }
def SnapsCrashUptoCardSaid : Prop := Claim7.holds Tryd.pinned (.plain (OpenSpec.upto snapsCrashSpec)) snapsCrashUptoCard

/-- THE SECOND FORM's CARD OF 'consistorylaw12.SnapsHalf'. -/
def snapsHalfUptoCard : Claim7 := { stood := { row := snapsHalfUptoRow, standIns := [], harness := (true, "b11e0aafd5de3f0f1968d5134a2fef6800488040f585470735d2c8b5c85570bc"), looks := false }, kinds := [], alts := [], laidByText := true, laidKinds := [.data], laidTests := true, laidLooks := .later }
def SnapsHalfUptoCardSaid : Prop := Claim7.holds Tryd.pinned (.plain (OpenSpec.upto snapsHalfSpec)) snapsHalfUptoCard

/-- THE SECOND FORM's CARD OF 'consistorylaw12.SnapsTwo'. -/
def snapsTwoUptoCard : Claim7 := { stood := { row := snapsTwoUptoRow, standIns := [], harness := (true, "b11e0aafd5de3f0f1968d5134a2fef6800488040f585470735d2c8b5c85570bc"), looks := false }, kinds := [], alts := [], laidByText := true, laidKinds := [.data], laidTests := true, laidLooks := .later }
def SnapsTwoUptoCardSaid : Prop := Claim7.holds Tryd.pinned (.plain (OpenSpec.upto snapsTwoSpec)) snapsTwoUptoCard
end Rows
end Go.Proofs.YtijhicfegbaadaaDoor
