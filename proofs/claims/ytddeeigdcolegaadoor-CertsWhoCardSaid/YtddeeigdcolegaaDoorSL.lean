/- SL: the laws of layer 2: what each law's Go function comes to. -/
import Derived.Test.YtddeeigdcolegaaDoorSB
import Derived.Stop.BytesEq
import Derived.Lib.SlBytesConst
namespace Go.Proofs.YtddeeigdcolegaaDoor
open Go.RowKit Go.V

theorem eqB (p : List UInt8) (hp : p.length = 32) : ∀ W : World, (Op.equalIn 10000 26 (.agg (bvs p).toArray) (.agg (bvs p).toArray)).run Tryd.prog W = .ok true W := fun W => by
  have := run_equalIn_bytes (P := Tryd.prog) W 9998 26 5 32 und25 Tryd.underlying5 Tryd.sizeOf5 p p hp hp
  rw [beq_self_eq_true] at this
  exact this
theorem at4 {l : List UInt8} {a b c d : UInt8} (h : l.take 4 = [a, b, c, d]) : l[0]? = some a ∧ l[1]? = some b ∧ l[2]? = some c ∧ l[3]? = some d := by
  have e : ∀ i, i < 4 → l[i]? = ([a, b, c, d] : List UInt8)[i]? := by
    intro i hi
    rw [← h, List.getElem?_take, if_pos hi]
  exact ⟨e 0 (by omega), e 1 (by omega), e 2 (by omega), e 3 (by omega)⟩
theorem bsB (x0 x1 x2 : Int) : ∀ W : World, (Instr.buildSlice 27 3 #[(0, .int .u8 x0), (1, .int .u8 x1), (2, .int .u8 x2)]).run Tryd.prog W = .ok (.slice (some ⟨W.heap.size, 0, none⟩) 3 3) (W.alloc (.cells #[.int .u8 x0, .int .u8 x1, .int .u8 x2] 5)) := fun _ => by kernel_rfl

theorem cvB (w : World) : (convert 27 27 (.slice (some ⟨w.heap.size, 0, none⟩) 3 3)).run Tryd.prog (w.alloc (.cells #[.int .u8 97, .int .u8 98, .int .u8 99] 5)) = .ok (.slice (some ⟨w.heap.size, 0, none⟩) 3 3) (w.alloc (.cells #[.int .u8 97, .int .u8 98, .int .u8 99] 5 (3, 4))) :=
  Lib.run_convert_bytes_const w 27 5 #[.int .u8 97, .int .u8 98, .int .u8 99] 3 3 Tryd.underlying27 Tryd.underlying5
theorem rdAbc (w : World) (t : TypeId) (fr : Nat × Nat) : Rd (w.alloc (.cells #[.int .u8 97, .int .u8 98, .int .u8 99] t fr)) (fun _ => True) (.slice (some ⟨w.heap.size, 0, none⟩) 3 3) (bys [97, 98, 99]) := by
  unfold bys Rd
  refine ⟨_, 3, rfl, by simp, by simp [maxLen], fun h => by simp at h, fun _ => ⟨_, _, rfl, trivial, RdC.of_bytes fun j u hu => ?_⟩⟩
  have hh : (w.alloc (.cells #[.int .u8 97, .int .u8 98, .int .u8 99] t fr)).heap[w.heap.size]? = some (.cells #[.int .u8 97, .int .u8 98, .int .u8 99] t fr) := heap_alloc_new w _
  rw [Nat.zero_add]
  simp only [World.cell?, hh]
  simp [bvs, byteV] at hu ⊢
  exact hu
end Go.Proofs.YtddeeigdcolegaaDoor
