/- R1: contracts of the document's answers for layer 1 that hold bytes. -/
import Derived.Test.YtigojjdoacfdgaaN3
namespace Go.Proofs.Ytigojjdoacfdgaa
open Go.RowKit Go.V

theorem take_eq_succ {a b : List UInt8} {k : Nat} (ha : k < a.length) (hb : k < b.length) (h : a.take k = b.take k) (he : a[k].toNat = b[k].toNat) : a.take (k + 1) = b.take (k + 1) := by
  rw [List.take_succ_eq_append_getElem ha, List.take_succ_eq_append_getElem hb, h, UInt8.toNat_inj.1 he]

/-- the bytes so far, and the number that is left -/
theorem packed_step (x : Nat) (k : Nat) (h : ¬ x < 128) : packedF (k + 1) x = UInt8.ofNat (x % 128 + 128) :: packedF k (x / 128) := by rw [packedF, if_neg h]
theorem packed_small (x : Nat) (k : Nat) (h : x < 128) : packedF k x = [UInt8.ofNat x] := by cases k <;> simp [packedF, h]

/-- a fixed number's bytes -/
def fixB (n x : Nat) : List UInt8 := (List.range n).map fun i => UInt8.ofNat (x / 256 ^ (n - 1 - i) % 256)
def okN (n : Int) : Prop := n = 1 ∨ n = 2 ∨ n = 4 ∨ n = 8
instance (n : Int) : Decidable (okN n) := by unfold okN; infer_instance
def fixR (n : Int) (x : Nat) : List UInt8 := if okN n then fixB n.toNat x else []
end Go.Proofs.Ytigojjdoacfdgaa
