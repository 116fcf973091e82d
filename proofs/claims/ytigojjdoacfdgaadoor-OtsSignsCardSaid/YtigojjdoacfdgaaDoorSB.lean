/- SB: contracts of the document's All and Chain. -/
import Derived.Test.YtigojjdoacfdgaaDoorSA
namespace Go.Proofs.YtigojjdoacfdgaaDoor
open Go.RowKit Go.V

end Go.Proofs.YtigojjdoacfdgaaDoor
