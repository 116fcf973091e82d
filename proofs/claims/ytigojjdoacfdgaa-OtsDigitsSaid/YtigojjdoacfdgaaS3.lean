/- S3: contract of words. -/
import Derived.Test.YtigojjdoacfdgaaS2
import Derived.BigRegion
import Derived.IntWalk
namespace Go.Proofs.Ytigojjdoacfdgaa
open Go.RowKit Go.V
end Go.Proofs.Ytigojjdoacfdgaa
