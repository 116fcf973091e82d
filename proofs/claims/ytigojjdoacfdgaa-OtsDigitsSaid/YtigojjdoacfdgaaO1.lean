/- O1: layer 4: pieces, chains and digits as list functions; contracts of the document's Piece, Walk, Secret. -/
import Derived.Test.YtigojjdoacfdgaaSA
import Derived.Test.YtigojjdoacfdgaaVC
namespace Go.V
open Go.RowKit
def pieceF (t : List UInt8) : List UInt8 := (shaF t).take 16
/-- k steps of chain j from step f on -/
def walkF (p : List UInt8) (j f : Nat) : Nat → List UInt8
  | 0 => p
  | k + 1 => pieceF (walkF p j f k ++ [UInt8.ofNat j, UInt8.ofNat (f + k)])
theorem walkF_add (p : List UInt8) (j f a : Nat) : ∀ b, walkF (walkF p j f a) j (f + a) b = walkF p j f (a + b)
  | 0 => rfl
  | b + 1 => by
    rw [walkF, walkF_add p j f a b, ← Nat.add_assoc, walkF, Nat.add_assoc]
def secF (seed : List UInt8) (idx : Int) (j : Nat) : List UInt8 := pieceF (seed ++ fx 8 (idx % 18446744073709551616).toNat ++ [UInt8.ofNat j])
end Go.V
namespace Go.Proofs.Ytigojjdoacfdgaa
open Go.RowKit Go.V
theorem len_piece (t : List UInt8) : (pieceF t).length = 16 := by unfold pieceF; rw [List.length_take, len_sha]; rfl
theorem len_walk (p : List UInt8) (j f : Nat) (hp : p.length = 16) : ∀ k, (walkF p j f k).length = 16
  | 0 => hp
  | _ + 1 => len_piece _
theorem len_sec (seed : List UInt8) (idx : Int) (j : Nat) : (secF seed idx j).length = 16 := len_piece _
theorem bvs2 (p : List UInt8) (j k : Nat) : bvs p ++ [.int .u8 ((j : Int) % 256), .int .u8 ((k : Int) % 256)] = bvs (p ++ [UInt8.ofNat j, UInt8.ofNat k]) := by
  have e : ∀ n : Nat, (n : Int) % 256 = (((UInt8.ofNat n).toNat : Nat) : Int) := fun n => by rw [UInt8.toNat_ofNat']; omega
  rw [e, e]
  simp [bvs, byteV]
end Go.Proofs.Ytigojjdoacfdgaa
