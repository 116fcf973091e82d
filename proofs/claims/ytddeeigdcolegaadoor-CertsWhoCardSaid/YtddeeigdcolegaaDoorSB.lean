/- SB: contracts of the document's All and Chain. -/
import Derived.Test.YtddeeigdcolegaaDoorSA
namespace Go.Proofs.YtddeeigdcolegaaDoor
open Go.RowKit Go.V

end Go.Proofs.YtddeeigdcolegaaDoor
