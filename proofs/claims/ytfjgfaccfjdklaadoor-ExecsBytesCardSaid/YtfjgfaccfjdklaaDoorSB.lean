/- SB: contracts of the document's All and Chain. -/
import Derived.Test.YtfjgfaccfjdklaaDoorSA
namespace Go.Proofs.YtfjgfaccfjdklaaDoor
open Go.RowKit Go.V

end Go.Proofs.YtfjgfaccfjdklaaDoor
