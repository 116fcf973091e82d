/- The library's sort of names at this translation, by the shelf's one contract. -/
import Derived.Shelf.Sort.Plain
import Derived.Shelf.Slices.In.SortNone
import Derived.Test.YtijhicfegbaadaaDoorProg
namespace Go.Proofs
open Go.Shelf
end Go.Proofs
