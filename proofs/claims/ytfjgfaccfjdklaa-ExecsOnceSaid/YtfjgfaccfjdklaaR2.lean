/- R2: several texts in one. -/
import Derived.Test.YtfjgfaccfjdklaaN3
/- R1: contracts of the document's answers for layer 1 that hold bytes. -/
namespace Go.Proofs.Ytfjgfaccfjdklaa
open Go.RowKit Go.V

theorem take_eq_succ {a b : List UInt8} {k : Nat} (ha : k < a.length) (hb : k < b.length) (h : a.take k = b.take k) (he : a[k].toNat = b[k].toNat) : a.take (k + 1) = b.take (k + 1) := by
  rw [List.take_succ_eq_append_getElem ha, List.take_succ_eq_append_getElem hb, h, UInt8.toNat_inj.1 he]

/-- the bytes so far, and the number that is left -/
theorem packed_step (x : Nat) (k : Nat) (h : ¬ x < 128) : packedF (k + 1) x = UInt8.ofNat (x % 128 + 128) :: packedF k (x / 128) := by rw [packedF, if_neg h]
theorem packed_small (x : Nat) (k : Nat) (h : x < 128) : packedF k x = [UInt8.ofNat x] := by cases k <;> simp [packedF, h]

/-- a fixed number's bytes -/
def fixB (n x : Nat) : List UInt8 := (List.range n).map fun i => UInt8.ofNat (x / 256 ^ (n - 1 - i) % 256)
def okN (n : Int) : Prop := n = 1 ∨ n = 2 ∨ n = 4 ∨ n = 8
instance (n : Int) : Decidable (okN n) := by unfold okN; infer_instance
def fixR (n : Int) (x : Nat) : List UInt8 := if okN n then fixB n.toNat x else []
end Go.Proofs.Ytfjgfaccfjdklaa
/- R2: fixed numbers put, by the program and by the document. -/
namespace Go.Proofs.Ytfjgfaccfjdklaa
open Go.RowKit Go.V
def fixT (n x k : Nat) : List UInt8 := (List.range k).map fun i => UInt8.ofNat (x / 256 ^ (n - 1 - i) % 256)
theorem fixT_succ (n x k : Nat) : fixT n x (k + 1) = fixT n x k ++ [UInt8.ofNat (x / 256 ^ (n - 1 - k) % 256)] := by simp [fixT, List.range_succ]
theorem okN_cases {n : Int} (h : okN n) : ∃ m : Nat, n = m ∧ (m = 1 ∨ m = 2 ∨ m = 4 ∨ m = 8) := by
  unfold okN at h
  rcases h with h | h | h | h
  · exact ⟨1, h, by omega⟩
  · exact ⟨2, h, by omega⟩
  · exact ⟨4, h, by omega⟩
  · exact ⟨8, h, by omega⟩
theorem okN_bool (n : Int) : decide (n = 1 ∨ n = 2 ∨ n = 4 ∨ n = 8) = decide (okN n) := rfl

theorem fix_byte (x j : Nat) : (x : Int) / 2 ^ (8 * j) % 256 = ((x / 256 ^ j % 256 : Nat) : Int) := by
  rw [show (2 : Int) ^ (8 * j) = ((2 ^ (8 * j) : Nat) : Int) from by push_cast; rfl, Nat.pow_mul, Int.natCast_emod, Int.natCast_ediv]
  rfl
theorem fix_push {n x k : Nat} (bs : List UInt8) : bvs (bs ++ fixT n x k) ++ [.int .u8 ((x : Int) / 2 ^ (8 * (n - 1 - k)) % 256)] = bvs (bs ++ fixT n x (k + 1)) := by
  rw [fix_byte, fixT_succ, ← List.append_assoc, bvs_snoc, byteV_of (by omega)]

end Go.Proofs.Ytfjgfaccfjdklaa
