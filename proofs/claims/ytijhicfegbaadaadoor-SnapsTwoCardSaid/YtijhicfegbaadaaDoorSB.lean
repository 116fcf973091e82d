/- SB: contracts of the document's All and Chain. -/
import Derived.Test.YtijhicfegbaadaaDoorSA
namespace Go.Proofs.YtijhicfegbaadaaDoor
open Go.RowKit Go.V

end Go.Proofs.YtijhicfegbaadaaDoor
