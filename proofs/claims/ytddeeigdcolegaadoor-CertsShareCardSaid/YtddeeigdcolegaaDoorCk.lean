/- Ck: layers 17 and 18: the laws' table of keys, as lists. -/
import Derived.Test.YtddeeigdcolegaaDoorCz
import Derived.Test.YtddeeigdcolegaaDoorS6
namespace Go.Proofs.YtddeeigdcolegaaDoor
open Go.RowKit Go.V
def kU (i : Nat) : List (List UInt8) := (List.range i).map (fun j => [UInt8.ofNat j])
def ks17 : List (List UInt8) := kU 16
theorem kU_next (i : Nat) : kU (i + 1) = kU i ++ [[UInt8.ofNat i]] := by
  unfold kU
  rw [List.range_succ, List.map_append]
  rfl
theorem kU_len (i : Nat) : (kU i).length = i := by unfold kU; simp
theorem ks17_sm : KsSm ks17 := by
  refine ⟨by unfold ks17; rw [kU_len]; omega, fun k hk => ?_⟩
  unfold ks17 kU at hk
  obtain ⟨j, _, rfl⟩ := List.mem_map.1 hk
  show 1 ≤ 1000000
  omega
def zKs : List Value := [.slice none 0 0, .slice none 0 0]
theorem zeroKs17 : (Tryd.prog.info? 37).map (·.zero) = some (some (.agg zKs.toArray)) := by kernel_rfl
end Go.Proofs.YtddeeigdcolegaaDoor
