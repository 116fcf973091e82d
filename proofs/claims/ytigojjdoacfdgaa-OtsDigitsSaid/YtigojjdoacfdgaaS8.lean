/- S8: contracts of the document's ReadFixed, Word. -/
import Derived.Test.YtigojjdoacfdgaaS7
import Derived.Great.BuildSlice
namespace Go.Proofs.Ytigojjdoacfdgaa
open Go.RowKit Go.V

/-- the number of n bytes from a place on, the highest first -/
def nb (b : List UInt8) (k : Nat) : Nat → Nat
  | 0 => 0
  | n + 1 => 256 * nb b k n + (b.getD (k + n) 0).toNat
theorem nb_lt (b : List UInt8) (k : Nat) : ∀ n, nb b k n < 256 ^ n
  | 0 => by simp [nb]
  | n + 1 => by
    have h := nb_lt b k n
    have := (b.getD (k + n) 0).toNat_lt
    rw [nb, Nat.pow_succ]
    omega
theorem nb4 (b : List UInt8) (i : Nat) : (be4 b i).toNat = nb b (4 * i) 4 := by
  have h := nb_lt b (4 * i) 4
  unfold be4
  rw [UInt32.toNat_ofNat']
  simp only [nb, Nat.add_zero] at h ⊢
  rw [Nat.mod_eq_of_lt (by omega)]
  omega
def klp : List (Nat × Operand) := (kl.zipIdx 0).map fun x => (x.2, .const (u32V x.1))
def klv : List (Nat × Value) := (kl.zipIdx 0).map fun x => (x.2, u32V x.1)
theorem klp_klv (a : Act) : (klp.map fun x => (x.1, a.eval x.2)) = klv := by simp [klp, klv, Function.comp_def, Act.eval]
end Go.Proofs.Ytigojjdoacfdgaa
