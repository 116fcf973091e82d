/- RB: contract of the document's Bytes (a digest's bytes). -/
import Derived.Test.YtcechioeolokcaaGreatDoorN3
import Derived.Test.YtcechioeolokcaaGreatDoorVA
import Derived.Test.YtcechioeolokcaaGreatDoorVH
namespace Go.Proofs.YtcechioeolokcaaGreatDoor
open Go.RowKit Go.V
end Go.Proofs.YtcechioeolokcaaGreatDoor
