/- R2: fixed numbers put, by the program and by the document. -/
import Derived.Test.YtigojjdoacfdgaaR1
namespace Go.Proofs.Ytigojjdoacfdgaa
open Go.RowKit Go.V
def fixT (n x k : Nat) : List UInt8 := (List.range k).map fun i => UInt8.ofNat (x / 256 ^ (n - 1 - i) % 256)
theorem fixT_succ (n x k : Nat) : fixT n x (k + 1) = fixT n x k ++ [UInt8.ofNat (x / 256 ^ (n - 1 - k) % 256)] := by simp [fixT, List.range_succ]
theorem okN_cases {n : Int} (h : okN n) : ∃ m : Nat, n = m ∧ (m = 1 ∨ m = 2 ∨ m = 4 ∨ m = 8) := by
  unfold okN at h
  rcases h with h | h | h | h
  · exact ⟨1, h, by omega⟩
  · exact ⟨2, h, by omega⟩
  · exact ⟨4, h, by omega⟩
  · exact ⟨8, h, by omega⟩
theorem okN_bool (n : Int) : decide (n = 1 ∨ n = 2 ∨ n = 4 ∨ n = 8) = decide (okN n) := rfl

theorem fix_byte (x j : Nat) : (x : Int) / 2 ^ (8 * j) % 256 = ((x / 256 ^ j % 256 : Nat) : Int) := by
  rw [show (2 : Int) ^ (8 * j) = ((2 ^ (8 * j) : Nat) : Int) from by push_cast; rfl, Nat.pow_mul, Int.natCast_emod, Int.natCast_ediv]
  rfl
theorem fix_push {n x k : Nat} (bs : List UInt8) : bvs (bs ++ fixT n x k) ++ [.int .u8 ((x : Int) / 2 ^ (8 * (n - 1 - k)) % 256)] = bvs (bs ++ fixT n x (k + 1)) := by
  rw [fix_byte, fixT_succ, ← List.append_assoc, bvs_snoc, byteV_of (by omega)]

end Go.Proofs.Ytigojjdoacfdgaa
