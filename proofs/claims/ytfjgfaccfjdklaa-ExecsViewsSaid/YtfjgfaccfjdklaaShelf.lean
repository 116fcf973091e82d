/- The library's bits.Len64 at this translation, by the shelf's one contract. -/
import Derived.Shelf.Strconv.Itoa0
import Derived.Test.YtfjgfaccfjdklaaProg
namespace Go.Proofs
open Go.Shelf
end Go.Proofs
