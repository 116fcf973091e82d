/- VH: digests as cells. -/
import Derived.Test.YtnhhbbjkeekneaaDoorVA
namespace Go.Proofs.YtnhhbbjkeekneaaDoor
open Go.RowKit Go.V
theorem len_bvs (bs : List UInt8) : (bvs bs).length = bs.length := by simp [bvs]
theorem bvs_at (l : List UInt8) (k : Nat) (x : UInt8) (h : l[k]? = some x) : (bvs l)[k]? = some (byteV x) := by simp [bvs, h]
theorem size25 : (Tryd.prog.info? 46).map (·.size) = some 32 := by kernel_rfl
theorem size8 : (Tryd.prog.info? 5).map (·.size) = some 1 := by kernel_rfl
def zs8 (n : Nat) : List Value := List.replicate n (.int .u8 0)
theorem zero25 : (Tryd.prog.info? 46).map (·.zero) = some (some (.agg (zs8 32).toArray)) := by kernel_rfl
/-- 32 bytes, the first k of l, the rest noughts -/
def part32 (l : List UInt8) (k : Nat) : List Value := (bvs l).take k ++ List.replicate (32 - k) (.int .u8 0)
theorem part32_0 (l : List UInt8) : part32 l 0 = List.replicate 32 (.int .u8 0) := by simp [part32]
theorem part32_len (l : List UInt8) (k : Nat) (hl : l.length = 32) (hk : k ≤ 32) : (part32 l k).length = 32 := by simp [part32, len_bvs, hl]; omega
theorem part32_set (l : List UInt8) (k : Nat) (hl : l.length = 32) (hk : k < 32) (c : UInt8) (hc : l[k]? = some c) : (part32 l k).set k (byteV c) = part32 l (k + 1) :=
  fill_set _ _ 32 k (by rw [len_bvs, hl]) hk _ (bvs_at l k c hc)
theorem part32_end (l : List UInt8) (hl : l.length = 32) : part32 l 32 = bvs l := by simp [part32, List.take_of_length_le, len_bvs, hl]
end Go.Proofs.YtnhhbbjkeekneaaDoor
