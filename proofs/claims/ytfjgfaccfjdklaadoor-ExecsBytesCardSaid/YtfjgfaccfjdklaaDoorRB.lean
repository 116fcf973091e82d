/- RB: contract of the document's Bytes (a digest's bytes). -/
import Derived.Test.YtfjgfaccfjdklaaDoorN3
import Derived.Test.YtfjgfaccfjdklaaDoorVA
import Derived.Test.YtfjgfaccfjdklaaDoorVH
namespace Go.Proofs.YtfjgfaccfjdklaaDoor
open Go.RowKit Go.V
end Go.Proofs.YtfjgfaccfjdklaaDoor
