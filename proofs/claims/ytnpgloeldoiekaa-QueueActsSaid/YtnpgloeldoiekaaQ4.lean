/- Q4: layer 7: a request's text and bytes by the document. -/
import Derived.Test.YtnpgloeldoiekaaQ3
namespace Go.V
open Go.RowKit
def Rq.bt (r : Rq) : List UInt8 := (packed r.text.length ++ r.text) ++ (packed r.g.length ++ r.g)
theorem len_bt (r : Rq) : r.bt.length ≤ 44 + r.g.length := by
  unfold Rq.bt
  have h1 := len_text r
  have h2 := psz_bd r.text.length
  have h3 := psz_bd r.g.length
  simp only [List.length_append, length_packed]
  omega
end Go.V
namespace Go.V
open Go.RowKit
/-- a block of another type stays when a row grows -/
theorem blk_grown {w w' : World} {g b s n : Nat} {t e : TypeId} {v : Value} {cs xs : List Value} (hb : Blk w g t cs) (hG : w.grownBy w' v.ownBlock) (h : w.ownsRow b e s v n xs) (hne : t ≠ e) : Blk w' g t cs :=
  hb.keep (hG.block _ hb.lt (blk_row hb h hne))
end Go.V
namespace Go.Proofs.Ytnpgloeldoiekaa
open Go.RowKit Go.V
theorem bs4B (x0 x1 x2 x3 : Int) : ∀ W : World, (Instr.buildSlice 30 4 #[(0, .int .u8 x0), (1, .int .u8 x1), (2, .int .u8 x2), (3, .int .u8 x3)]).run Try.prog W = .ok (.slice (some ⟨W.heap.size, 0, none⟩) 4 4) (W.alloc (.cells #[.int .u8 x0, .int .u8 x1, .int .u8 x2, .int .u8 x3] 5)) := fun _ => by kernel_rfl
end Go.Proofs.Ytnpgloeldoiekaa
