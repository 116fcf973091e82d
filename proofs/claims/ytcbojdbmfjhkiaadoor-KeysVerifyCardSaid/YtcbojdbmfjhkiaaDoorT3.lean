/- T3: layer 3: contracts of Tag, Check, Vector. -/
import Derived.Test.YtcbojdbmfjhkiaaDoorT2
import Derived.Deep.RegionHeld3
import Derived.Stop.BytesEq
namespace Go.Proofs.YtcbojdbmfjhkiaaDoor
open Go.RowKit Go.V
theorem eqH (p q : List UInt8) (hp : p.length = 32) (hq : q.length = 32) : ∀ W : World, (Op.equalIn 10000 23 (.agg (bvs p).toArray) (.agg (bvs q).toArray)).run Tryd.prog W = .ok (p == q) W := fun W =>
  run_equalIn_bytes (P := Tryd.prog) W 9998 23 5 32 und25 Tryd.underlying5 Tryd.sizeOf5 p q hp hq
end Go.Proofs.YtcbojdbmfjhkiaaDoor

