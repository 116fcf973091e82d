/- N3: several texts in one. -/
import Derived.Test.YtfjgfaccfjdklaaV
import Derived.Test.YtfjgfaccfjdklaaM1
import Derived.Test.YtfjgfaccfjdklaaShelf
import Derived.Deep.RegionHeld3
/- N1: contracts of package nums and of the document's answers for layer 1: those that only reckon. -/
namespace Go.Proofs.Ytfjgfaccfjdklaa
open Go.RowKit Go.V

theorem xor_zero_u64 (y : Nat) (hy : y < 18446744073709551616) : bits .xor .u64 (y : Int) 0 = (y : Int) := by
  have := u64_xor_nat y 0 hy (by omega)
  simpa using this
theorem xor_ones_u64 (y : Nat) (hy : y < 18446744073709551616) : bits .xor .u64 (y : Int) 18446744073709551615 = ((18446744073709551615 - y : Nat) : Int) := by
  have := u64_xor_nat y 18446744073709551615 hy (by omega)
  have e : y ^^^ 18446744073709551615 = 18446744073709551615 - y := by
    have h := BitVec.toNat_not (x := BitVec.ofNat 64 y)
    have h2 : (BitVec.ofNat 64 y ^^^ BitVec.allOnes 64) = ~~~ (BitVec.ofNat 64 y) := BitVec.xor_allOnes
    have h3 := congrArg BitVec.toNat h2
    rw [BitVec.toNat_xor, h] at h3
    simp only [BitVec.toNat_ofNat, BitVec.toNat_allOnes] at h3
    rw [Nat.mod_eq_of_lt (by omega)] at h3
    exact h3
  rw [e] at this
  exact this

theorem fold_out (x : Int) (h1 : -9223372036854775808 ≤ x) (h2 : x ≤ 9223372036854775807) :
    bits .xor .u64 (IntKind.u64.wrap (IntKind.u64.wrap x * 2)) (IntKind.u64.wrap (x / 9223372036854775808)) = (foldN x : Int) := by
  simp only [IntKind.wrap_u64]
  unfold foldN
  split
  · have e1 : x / 9223372036854775808 % 18446744073709551616 = 18446744073709551615 := by omega
    have e2 : x % 18446744073709551616 * 2 % 18446744073709551616 = (((2 * x + 18446744073709551616).toNat : Nat) : Int) := by omega
    rw [e1, e2, xor_ones_u64 _ (by omega)]
    omega
  · have e1 : x / 9223372036854775808 % 18446744073709551616 = 0 := by omega
    have e2 : x % 18446744073709551616 * 2 % 18446744073709551616 = (((2 * x).toNat : Nat) : Int) := by omega
    rw [e1, e2, xor_zero_u64 _ (by omega)]

theorem unfold_out (x : Nat) (h2 : x < 18446744073709551616) : bits BinOp.xor IntKind.i64 (↑x / 2) (wrap64 (-wrap64 (bits BinOp.and IntKind.u64 (↑x) 1))) = unfoldZ x := by
  have e1 : bits BinOp.and IntKind.u64 (x : Int) 1 = ((x % 2 : Nat) : Int) := by
    have := u64_and_nat x 1 h2 (by omega)
    rw [nat_mask1] at this
    exact this
  rw [e1, wrap64_id (x := ((x % 2 : Nat) : Int)) (by omega) (by omega), wrap64_id (by omega) (by omega)]
  unfold unfoldZ
  have e2 : (x : Int) / 2 = ((x / 2 : Nat) : Int) := by omega
  rw [e2]
  generalize hy : x / 2 = y
  have hy' : y < 9223372036854775808 := by omega
  split
  · rename_i h
    rw [h]
    show IntKind.i64.wrap ((BitVec.ofInt 64 (y : Int) ^^^ BitVec.ofInt 64 (-1)).toNat : Int) = _
    have h3 : BitVec.ofInt 64 (-1) = BitVec.allOnes 64 := by decide
    rw [h3, BitVec.xor_allOnes, BitVec.toNat_not, BitVec.ofInt_natCast, BitVec.toNat_ofNat, IntKind.wrap_i64]
    omega
  · rename_i h
    have h0 : x % 2 = 0 := by omega
    rw [h0]
    show IntKind.i64.wrap ((BitVec.ofInt 64 (y : Int) ^^^ BitVec.ofInt 64 (-0)).toNat : Int) = _
    have h3 : BitVec.ofInt 64 (-0) = BitVec.ofNat 64 0 := by decide
    rw [h3, BitVec.xor_zero, BitVec.ofInt_natCast, BitVec.toNat_ofNat, IntKind.wrap_i64]
    omega

end Go.Proofs.Ytfjgfaccfjdklaa
/- N2: contracts of package nums that put bytes. -/
namespace Go.Proofs.Ytfjgfaccfjdklaa
open Go.RowKit Go.V

theorem slB : SlT Try.prog 45 5 (.int .u8 0) 1 := .of Try.underlying45 (by kernel_rfl) rfl
/-- 'append([]byte{}, b...)' -/
theorem lit0 : ∀ W : World, (Instr.buildSlice 45 0 #[]).run Try.prog W = .ok (.slice (some ⟨W.heap.size, 0, none⟩) 0 0) (W.alloc (.cells #[] 5)) := fun W => by kernel_rfl
theorem lit0_own (w : World) (base : Nat) (h : base ≤ w.heap.size) : (w.alloc (.cells #[] 5)).ownsRow base 5 1 (.slice (some ⟨w.heap.size, 0, none⟩) 0 0) 0 [] :=
  World.ownsRow_made w #[] 0 h (by simp [maxLen]) rfl
theorem isz : (Try.prog.info? 5).map (·.size) = some 1 := by kernel_rfl

def apkT (x size k : Nat) : List UInt8 := (List.range k).map fun i => if i + 1 = size then UInt8.ofNat (x / 128 ^ i % 128) else UInt8.ofNat (x / 128 ^ i % 128 + 128)

theorem or128 : ∀ y : Fin 256, (y.val ||| 128) = y.val % 128 + 128 := by decide +kernel
theorem c_more (x k : Nat) : bits BinOp.or IntKind.u8 ((x : Int) / 2 ^ (7 * k) % 256) 128 = (((x / 128 ^ k % 128 + 128 : Nat)) : Int) := by
  have e : (x : Int) / 2 ^ (7 * k) % 256 = ((x / 128 ^ k % 256 : Nat) : Int) := by
    rw [show (2 : Int) ^ (7 * k) = ((2 ^ (7 * k) : Nat) : Int) from by push_cast; rfl, Nat.pow_mul]
    push_cast
    rfl
  rw [e]
  have h := u8_or_nat (x / 128 ^ k % 256) 128 (by omega) (by omega)
  rw [or128 ⟨x / 128 ^ k % 256, by omega⟩] at h
  simp only [show x / 128 ^ k % 256 % 128 = x / 128 ^ k % 128 from by omega] at h
  exact h
theorem c_last (y : Nat) : bits BinOp.andNot IntKind.u8 (((y % 128 + 128 : Nat)) : Int) 128 = ((y % 128 : Nat) : Int) := by
  have h : bits .andNot .u8 ((y % 128 + 128 : Nat) : Int) 128 = (((y % 128 + 128) &&& (255 - 128) : Nat) : Int) := u8_andNot_nat (y % 128 + 128) 128 (by omega) (by omega)
  rw [show 255 - 128 = 127 from rfl, nat_mask7] at h
  rw [h]
  omega
theorem apkT_succ (x size k : Nat) : apkT x size (k + 1) = apkT x size k ++ [if k + 1 = size then UInt8.ofNat (x / 128 ^ k % 128) else UInt8.ofNat (x / 128 ^ k % 128 + 128)] := by
  simp [apkT, List.range_succ]
theorem byteV_of {n : Nat} (h : n < 256) : byteV (UInt8.ofNat n) = .int .u8 (n : Int) := by
  unfold byteV
  rw [UInt8.toNat_ofNat', Nat.mod_eq_of_lt h]
theorem bvs_snoc (bs : List UInt8) (c : UInt8) : bvs (bs ++ [c]) = bvs bs ++ [byteV c] := by simp [bvs]
theorem app_last {x size k : Nat} (xs : List UInt8) (h : k + 1 = size) : bvs (xs ++ apkT x size k) ++ [.int .u8 (bits BinOp.andNot IntKind.u8 (bits BinOp.or IntKind.u8 ((x : Int) / 2 ^ (7 * k) % 256) 128) 128)] = bvs (xs ++ apkT x size (k + 1)) := by
  rw [c_more, c_last, apkT_succ, if_pos h, ← List.append_assoc, bvs_snoc, byteV_of (by omega)]
theorem app_more {x size k : Nat} (xs : List UInt8) (h : ¬ k + 1 = size) : bvs (xs ++ apkT x size k) ++ [.int .u8 (bits BinOp.or IntKind.u8 ((x : Int) / 2 ^ (7 * k) % 256) 128)] = bvs (xs ++ apkT x size (k + 1)) := by
  rw [c_more, apkT_succ, if_neg h, ← List.append_assoc, bvs_snoc, byteV_of (by omega)]

end Go.Proofs.Ytfjgfaccfjdklaa
/- N3: contracts of PutPacked, PutFolded, PutText, New. -/
namespace Go.Proofs.Ytfjgfaccfjdklaa
open Go.RowKit Go.V

/-- a new slice of bytes, nothing else turned -/
def NewB (w w' : World) (v : Value) (bs : List UInt8) : Prop := w'.ownsRow w.heap.size 5 1 v bs.length (bvs bs) ∧ Below w.heap.size w w'
theorem NewB.rd {w w' : World} {v : Value} {bs : List UInt8} (h : NewB w w' v bs) : Rd w' (fun b => w.heap.size ≤ b) v (bys bs) := Rd.of_own h.1
theorem len_packed (bs : List UInt8) (x : Nat) : (bs ++ packed x).length = bs.length + psz x := by rw [List.length_append, length_packed]

end Go.Proofs.Ytfjgfaccfjdklaa
