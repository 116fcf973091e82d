/- R3: contract of the document's ReadFixed, where the bytes are there. -/
import Derived.Test.YtcechioeolokcaaGreatDoorR2
import Derived.Test.YtcechioeolokcaaGreatDoorVA
import Derived.Great.BuildSlice
namespace Go.Proofs.YtcechioeolokcaaGreatDoor
open Go.RowKit Go.V
/-- the number of n bytes from a place on, the highest first -/
def nb (b : List UInt8) (k : Nat) : Nat → Nat
  | 0 => 0
  | n + 1 => 256 * nb b k n + (b.getD (k + n) 0).toNat
theorem nb_lt (b : List UInt8) (k : Nat) : ∀ n, nb b k n < 256 ^ n
  | 0 => by simp [nb]
  | n + 1 => by
    have h := nb_lt b k n
    have := (b.getD (k + n) 0).toNat_lt
    rw [nb, Nat.pow_succ]
    omega
end Go.Proofs.YtcechioeolokcaaGreatDoor
