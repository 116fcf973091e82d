/-
  DERIVED. GIVEN WITH THE SEED: THE CARDS: each row of YtcbojdbmfjhkiaaDoorRows.lean that lists a variable, with what it lists TIED to the program's text (the seventh form; the later family's looks); each row that meets fmt, with fmt's text TOLD by the authors' own Lean function (tested against real Go, not proved from fmt's source: count such statements apart). THE CARD IS WHAT COUNTS. Prove the row's statement (the work); the ties are given (YtcbojdbmfjhkiaaDoorTie.lean); close each card by the builder's one call (the guide's Derived/Test/ToyasCard.lean, 'card_holds'). Laid BY PROGRAM, IN A SANDBOX (cutbox-door.mjs). By AI agents, Wed Nov 11 2026. No macro, syntax, notation, axiom, sorry.
-/
import Derived.Test.YtcbojdbmfjhkiaaDoorRows
import GoSem.ClaimSeven
namespace Go.Proofs.YtcbojdbmfjhkiaaDoor
namespace Rows

/-- THE TIED CARD OF 'consistorylaw05.KeysSigns'. -/
def keysSignsCard : Claim7 := { stood := { row := keysSignsRow, standIns := [], harness := (true, "d124a7994f875da7a7dbf289ad4f18345dadf09d7aea5d06154e047811a501e4"), looks := false }, kinds := [], alts := [], laidByText := true, laidKinds := [.data], laidTests := true, laidLooks := .later }
def KeysSignsCardSaid : Prop := Claim7.holds Tryd.pinned (.plain (OpenSpec.ofChange keysSignsSpec)) keysSignsCard

/-- THE TIED CARD OF 'consistorylaw05.KeysVerify'. -/
def keysVerifyCard : Claim7 := { stood := { row := keysVerifyRow, standIns := [], harness := (true, "d124a7994f875da7a7dbf289ad4f18345dadf09d7aea5d06154e047811a501e4"), looks := false }, kinds := [], alts := [], laidByText := true, laidKinds := [.data], laidTests := true, laidLooks := .later }
def KeysVerifyCardSaid : Prop := Claim7.holds Tryd.pinned (.plain (OpenSpec.ofChange keysVerifySpec)) keysVerifyCard

/-- THE TIED CARD OF 'consistorylaw05.KeysTable'. -/
def keysTableCard : Claim7 := { stood := { row := keysTableRow, standIns := [], harness := (true, "d124a7994f875da7a7dbf289ad4f18345dadf09d7aea5d06154e047811a501e4"), looks := false }, kinds := [], alts := [], laidByText := true, laidKinds := [.data], laidTests := true, laidLooks := .later }
def KeysTableCardSaid : Prop := Claim7.holds Tryd.pinned (.plain (OpenSpec.ofChange keysTableSpec)) keysTableCard

/-- THE TIED CARD OF 'consistorylaw05.KeysApart'. -/
def keysApartCard : Claim7 := { stood := { row := keysApartRow, standIns := [], harness := (true, "d124a7994f875da7a7dbf289ad4f18345dadf09d7aea5d06154e047811a501e4"), looks := false }, kinds := [], alts := [], laidByText := true, laidKinds := [.data], laidTests := true, laidLooks := .later }
def KeysApartCardSaid : Prop := Claim7.holds Tryd.pinned (.plain (OpenSpec.ofChange keysApartSpec)) keysApartCard

/-- THE SECOND FORM's CARD OF 'consistorylaw05.KeysSigns'. -/
def keysSignsUptoCard : Claim7 := { stood := { row := keysSignsUptoRow, standIns := [], harness := (true, "d124a7994f875da7a7dbf289ad4f18345dadf09d7aea5d06154e047811a501e4"), looks := false }, kinds := [], alts := [], laidByText := true, laidKinds := [.data], laidTests := true, laidLooks := .later }
def KeysSignsUptoCardSaid : Prop := Claim7.holds Tryd.pinned (.plain (OpenSpec.upto keysSignsSpec)) keysSignsUptoCard

/-- THE SECOND FORM's CARD OF 'consistorylaw05.KeysVerify'. -/
def keysVerifyUptoCard : Claim7 := { stood := { row := keysVerifyUptoRow, standIns := [], harness := (true, "d124a7994f875da7a7dbf289ad4f18345dadf09d7aea5d06154e047811a501e4"), looks := false }, kinds := [], alts := [], laidByText := true, laidKinds := [.data], laidTests := true, laidLooks := .later }
def KeysVerifyUptoCardSaid : Prop := Claim7.holds Tryd.pinned (.plain (OpenSpec.upto keysVerifySpec)) keysVerifyUptoCard

/-- THE SECOND FORM's CARD OF 'consistorylaw05.KeysTable'. -/
def keysTableUptoCard : Claim7 := { stood := { row := keysTableUptoRow, standIns := [], harness := (true, "d124a7994f875da7a7dbf289ad4f18345dadf09d7aea5d06154e047811a501e4"), looks := false }, kinds := [], alts := [], laidByText := true, laidKinds := [.data], laidTests := true, laidLooks := .later }
def KeysTableUptoCardSaid : Prop := Claim7.holds Tryd.pinned (.plain (OpenSpec.upto keysTableSpec)) keysTableUptoCard

/-- THE SECOND FORM's CARD OF 'consistorylaw05.KeysApart'. -/
def keysApartUptoCard : Claim7 := { stood := { row := keysApartUptoRow, standIns := [], harness := (true, "d124a7994f875da7a7dbf289ad4f18345dadf09d7aea5d06154e047811a501e4"), looks := false }, kinds := [], alts := [], laidByText := true, laidKinds := [.data], laidTests := true, laidLooks := .later }
def KeysApartUptoCardSaid : Prop := Claim7.holds Tryd.pinned (.plain (OpenSpec.upto keysApartSpec)) keysApartUptoCard
end Rows
end Go.Proofs.YtcbojdbmfjhkiaaDoor
