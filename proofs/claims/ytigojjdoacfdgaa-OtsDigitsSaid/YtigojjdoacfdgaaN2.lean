/- N2: contracts of package nums that put bytes. -/
import Derived.Test.YtigojjdoacfdgaaN1
import Derived.Deep.RegionHeld3
namespace Go.Proofs.Ytigojjdoacfdgaa
open Go.RowKit Go.V

theorem isz : (Try.prog.info? 5).map (·.size) = some 1 := by kernel_rfl

def apkT (x size k : Nat) : List UInt8 := (List.range k).map fun i => if i + 1 = size then UInt8.ofNat (x / 128 ^ i % 128) else UInt8.ofNat (x / 128 ^ i % 128 + 128)

theorem or128 : ∀ y : Fin 256, (y.val ||| 128) = y.val % 128 + 128 := by decide +kernel
theorem c_more (x k : Nat) : bits BinOp.or IntKind.u8 ((x : Int) / 2 ^ (7 * k) % 256) 128 = (((x / 128 ^ k % 128 + 128 : Nat)) : Int) := by
  have e : (x : Int) / 2 ^ (7 * k) % 256 = ((x / 128 ^ k % 256 : Nat) : Int) := by
    rw [show (2 : Int) ^ (7 * k) = ((2 ^ (7 * k) : Nat) : Int) from by push_cast; rfl, Nat.pow_mul]
    push_cast
    rfl
  rw [e]
  have h := u8_or_nat (x / 128 ^ k % 256) 128 (by omega) (by omega)
  rw [or128 ⟨x / 128 ^ k % 256, by omega⟩] at h
  simp only [show x / 128 ^ k % 256 % 128 = x / 128 ^ k % 128 from by omega] at h
  exact h
theorem c_last (y : Nat) : bits BinOp.andNot IntKind.u8 (((y % 128 + 128 : Nat)) : Int) 128 = ((y % 128 : Nat) : Int) := by
  have h : bits .andNot .u8 ((y % 128 + 128 : Nat) : Int) 128 = (((y % 128 + 128) &&& (255 - 128) : Nat) : Int) := u8_andNot_nat (y % 128 + 128) 128 (by omega) (by omega)
  rw [show 255 - 128 = 127 from rfl, nat_mask7] at h
  rw [h]
  omega
theorem apkT_succ (x size k : Nat) : apkT x size (k + 1) = apkT x size k ++ [if k + 1 = size then UInt8.ofNat (x / 128 ^ k % 128) else UInt8.ofNat (x / 128 ^ k % 128 + 128)] := by
  simp [apkT, List.range_succ]
theorem byteV_of {n : Nat} (h : n < 256) : byteV (UInt8.ofNat n) = .int .u8 (n : Int) := by
  unfold byteV
  rw [UInt8.toNat_ofNat', Nat.mod_eq_of_lt h]
theorem bvs_snoc (bs : List UInt8) (c : UInt8) : bvs (bs ++ [c]) = bvs bs ++ [byteV c] := by simp [bvs]
theorem app_last {x size k : Nat} (xs : List UInt8) (h : k + 1 = size) : bvs (xs ++ apkT x size k) ++ [.int .u8 (bits BinOp.andNot IntKind.u8 (bits BinOp.or IntKind.u8 ((x : Int) / 2 ^ (7 * k) % 256) 128) 128)] = bvs (xs ++ apkT x size (k + 1)) := by
  rw [c_more, c_last, apkT_succ, if_pos h, ← List.append_assoc, bvs_snoc, byteV_of (by omega)]
theorem app_more {x size k : Nat} (xs : List UInt8) (h : ¬ k + 1 = size) : bvs (xs ++ apkT x size k) ++ [.int .u8 (bits BinOp.or IntKind.u8 ((x : Int) / 2 ^ (7 * k) % 256) 128)] = bvs (xs ++ apkT x size (k + 1)) := by
  rw [c_more, apkT_succ, if_neg h, ← List.append_assoc, bvs_snoc, byteV_of (by omega)]

end Go.Proofs.Ytigojjdoacfdgaa
