/- SB: contracts of the document's All and Chain. -/
import Derived.Test.YtlehdpoedmaghaaDoorSA
namespace Go.Proofs.YtlehdpoedmaghaaDoor
open Go.RowKit Go.V

end Go.Proofs.YtlehdpoedmaghaaDoor
