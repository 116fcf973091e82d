/- T5: layer 3: contracts of the document's Tag and Derive. -/
import Derived.Test.YtcbojdbmfjhkiaaDoorT4
import Derived.Deep.DeepCutAuto
namespace Go.V
open Go.RowKit
theorem xorB_snoc (m : UInt8) (k : List UInt8) (i : Nat) (x : UInt8) (h : k[i]? = some x) : bvs (xorB m (k.take i)) ++ [.int .u8 (bits BinOp.xor IntKind.u8 (x.toNat : Int) (m.toNat : Int))] = bvs (xorB m (k.take (i + 1))) := by
  obtain ⟨hi, he⟩ := List.getElem?_eq_some_iff.1 h
  rw [xor8_out, List.take_succ_eq_append_getElem hi, he]
  simp [bvs, xorB, byteV]
/-- rows of two variables in blocks apart -/
def Apt (a b : Value) : Prop := ∀ k, a.ownBlock = some k → b.ownBlock ≠ some k
theorem Apt.symm {a b : Value} (h : Apt a b) : Apt b a := fun k hk hb => h k hb hk
theorem apt_kept {a b : Value} (h : Apt a b) : b.ownBlock = none ∨ b.ownBlock ≠ a.ownBlock := by
  cases hb : b.ownBlock with
  | none => exact .inl rfl
  | some k => exact .inr (fun e => h k e.symm hb)
theorem Apt.step {a b a' : Value} {n : Nat} (h : Apt a b) (hat : a'.ownBlock = a.ownBlock ∨ ∃ g, a'.ownBlock = some g ∧ n ≤ g) (hb : ∀ k, b.ownBlock = some k → k < n) : Apt a' b := by
  intro k hk hkb
  rcases hat with e | ⟨g, e, hg⟩
  · exact h k (e.symm.trans hk) hkb
  · rw [e] at hk
    injection hk with hk
    have := hb k hkb
    omega
theorem app_z (p : List UInt8) (j : Nat) : bvs (p ++ List.replicate j 0) ++ [.int .u8 0] = bvs (p ++ List.replicate (j + 1) 0) := by
  simp [bvs, List.replicate_succ', byteV]
end Go.V
namespace Go.Proofs.YtcbojdbmfjhkiaaDoor
open Go.RowKit Go.V
end Go.Proofs.YtcbojdbmfjhkiaaDoor
