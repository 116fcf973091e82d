/- N3: contracts of PutPacked, PutFolded, PutText, New. -/
import Derived.Test.YtcbojdbmfjhkiaaDoorN2
namespace Go.Proofs.YtcbojdbmfjhkiaaDoor
open Go.RowKit Go.V

/-- a new slice of bytes, nothing else turned -/
def NewB (w w' : World) (v : Value) (bs : List UInt8) : Prop := w'.ownsRow w.heap.size 5 1 v bs.length (bvs bs) ∧ Below w.heap.size w w'
theorem NewB.rd {w w' : World} {v : Value} {bs : List UInt8} (h : NewB w w' v bs) : Rd w' (fun b => w.heap.size ≤ b) v (bys bs) := Rd.of_own h.1
theorem len_packed (bs : List UInt8) (x : Nat) : (bs ++ packed x).length = bs.length + psz x := by rw [List.length_append, length_packed]

end Go.Proofs.YtcbojdbmfjhkiaaDoor
