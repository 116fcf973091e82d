/- T1: layer 3: the tag as a list function; contracts of filled, behind, Derive. -/
import Derived.Test.YtcbojdbmfjhkiaaDoorSA
import Derived.Test.YtcbojdbmfjhkiaaDoorVB
namespace Go.V
open Go.RowKit
def xorB (m : UInt8) (k : List UInt8) : List UInt8 := k.map (· ^^^ m)
theorem len_xorB (m : UInt8) (k : List UInt8) : (xorB m k).length = k.length := by simp [xorB]
theorem xor8_out (a b : UInt8) : bits BinOp.xor IntKind.u8 (a.toNat : Int) (b.toNat : Int) = ((a ^^^ b).toNat : Int) := by
  have := a.toNat_lt
  have := b.toNat_lt
  rw [u8_xor_nat _ _ (by omega) (by omega), UInt8.toNat_xor]
end Go.V
namespace Go.Proofs.YtcbojdbmfjhkiaaDoor
open Go.RowKit Go.V
def keyF (key : List UInt8) : List UInt8 := (if 64 < key.length then shaF key else key) ++ List.replicate (64 - (if 64 < key.length then shaF key else key).length) 0
def tagF (key text : List UInt8) : List UInt8 := shaF (xorB 0x5c (keyF key) ++ shaF (xorB 0x36 (keyF key) ++ text))
theorem len_tag (key text : List UInt8) : (tagF key text).length = 32 := len_sha _
theorem keyF_of (key p : List UInt8) (h : p = if 64 < key.length then shaF key else key) : keyF key = p ++ List.replicate (64 - p.length) 0 := by rw [h]; rfl
theorem key_le (key p : List UInt8) (h : p = if 64 < key.length then shaF key else key) : p.length ≤ 64 := by
  rw [h]
  by_cases h6 : 64 < key.length
  · rw [if_pos h6, len_sha]; omega
  · rw [if_neg h6]; omega
theorem len_key (key : List UInt8) : (keyF key).length = 64 := by
  have := key_le key _ rfl
  rw [keyF_of key _ rfl, List.length_append, List.length_replicate]
  omega
theorem size35 : (Tryd.prog.info? 89).map (·.size) = some 64 := by kernel_rfl
theorem zero35 : (Tryd.prog.info? 89).map (·.zero) = some (some (.agg (zs8 64).toArray)) := by kernel_rfl
theorem und35 : Tryd.prog.underlying 89 = some (.array 64 5) := Tryd.underlying89

theorem set35 (l : List UInt8) (hl : l.length = 64) : (zs8 64).take 0 ++ bvs l ++ (zs8 64).drop (0 + (bvs l).length) = bvs l := by
  rw [List.take_zero, List.nil_append, len_bvs, hl, List.drop_of_length_le (by simp [zs8]), List.append_nil]
/-- what stands behind the copying -/
theorem key_row (p : List UInt8) (_hp : p.length ≤ 64) : splice (zs8 64) 0 (bvs p) = bvs (p ++ List.replicate (64 - p.length) 0) := by
  unfold splice zs8 bvs
  rw [List.take_zero, List.nil_append, List.drop_replicate, List.map_append, List.map_replicate, List.length_map, Nat.zero_add]
  rfl

end Go.Proofs.YtcbojdbmfjhkiaaDoor
