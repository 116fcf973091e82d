/- SB: contracts of the document's All and Chain. -/
import Derived.Test.YtcbojdbmfjhkiaaDoorSA
namespace Go.Proofs.YtcbojdbmfjhkiaaDoor
open Go.RowKit Go.V

end Go.Proofs.YtcbojdbmfjhkiaaDoor
