/- SB: contracts of the document's All and Chain. -/
import Derived.Test.YtcechioeolokcaaGreatDoorSA
namespace Go.Proofs.YtcechioeolokcaaGreatDoor
open Go.RowKit Go.V

end Go.Proofs.YtcechioeolokcaaGreatDoor
