/- SB: contracts of the document's All and Chain. -/
import Derived.Test.YtacjijhpbeegbaaDoorSA
namespace Go.Proofs.YtacjijhpbeegbaaDoor
open Go.RowKit Go.V

end Go.Proofs.YtacjijhpbeegbaaDoor
