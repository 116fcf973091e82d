/- N1: contracts of package nums and of the document's answers for layer 1: those that only reckon. -/
import Derived.Test.YthdkfcbfjhdpoaaV
import Derived.Test.YthdkfcbfjhdpoaaM1
import Derived.Test.YthdkfcbfjhdpoaaShelf
namespace Go.Proofs.Ythdkfcbfjhdpoaa
open Go.RowKit Go.V

theorem xor_zero_u64 (y : Nat) (hy : y < 18446744073709551616) : bits .xor .u64 (y : Int) 0 = (y : Int) := by
  have := u64_xor_nat y 0 hy (by omega)
  simpa using this
theorem xor_ones_u64 (y : Nat) (hy : y < 18446744073709551616) : bits .xor .u64 (y : Int) 18446744073709551615 = ((18446744073709551615 - y : Nat) : Int) := by
  have := u64_xor_nat y 18446744073709551615 hy (by omega)
  have e : y ^^^ 18446744073709551615 = 18446744073709551615 - y := by
    have h := BitVec.toNat_not (x := BitVec.ofNat 64 y)
    have h2 : (BitVec.ofNat 64 y ^^^ BitVec.allOnes 64) = ~~~ (BitVec.ofNat 64 y) := BitVec.xor_allOnes
    have h3 := congrArg BitVec.toNat h2
    rw [BitVec.toNat_xor, h] at h3
    simp only [BitVec.toNat_ofNat, BitVec.toNat_allOnes] at h3
    rw [Nat.mod_eq_of_lt (by omega)] at h3
    exact h3
  rw [e] at this
  exact this

theorem fold_out (x : Int) (h1 : -9223372036854775808 ≤ x) (h2 : x ≤ 9223372036854775807) :
    bits .xor .u64 (IntKind.u64.wrap (IntKind.u64.wrap x * 2)) (IntKind.u64.wrap (x / 9223372036854775808)) = (foldN x : Int) := by
  simp only [IntKind.wrap_u64]
  unfold foldN
  split
  · have e1 : x / 9223372036854775808 % 18446744073709551616 = 18446744073709551615 := by omega
    have e2 : x % 18446744073709551616 * 2 % 18446744073709551616 = (((2 * x + 18446744073709551616).toNat : Nat) : Int) := by omega
    rw [e1, e2, xor_ones_u64 _ (by omega)]
    omega
  · have e1 : x / 9223372036854775808 % 18446744073709551616 = 0 := by omega
    have e2 : x % 18446744073709551616 * 2 % 18446744073709551616 = (((2 * x).toNat : Nat) : Int) := by omega
    rw [e1, e2, xor_zero_u64 _ (by omega)]

theorem fold_any (x : Int) (w : World) (h1 : -9223372036854775808 ≤ x) (h2 : x ≤ 9223372036854775807) :
    Calls Try.prog 39 #[.int .i64 x] w fun e w' => e = .returned (.int .u64 (foldN x : Nat)) ∧ w = w' := by
  go_enter Try.func39, Try.ntmps39
  go_wp2
  go_ret
  exact ⟨ret_i (fold_out x h1 h2), rfl⟩

theorem unfold_out (x : Nat) (h2 : x < 18446744073709551616) : bits BinOp.xor IntKind.i64 (↑x / 2) (wrap64 (-wrap64 (bits BinOp.and IntKind.u64 (↑x) 1))) = unfoldZ x := by
  have e1 : bits BinOp.and IntKind.u64 (x : Int) 1 = ((x % 2 : Nat) : Int) := by
    have := u64_and_nat x 1 h2 (by omega)
    rw [nat_mask1] at this
    exact this
  rw [e1, wrap64_id (x := ((x % 2 : Nat) : Int)) (by omega) (by omega), wrap64_id (by omega) (by omega)]
  unfold unfoldZ
  have e2 : (x : Int) / 2 = ((x / 2 : Nat) : Int) := by omega
  rw [e2]
  generalize hy : x / 2 = y
  have hy' : y < 9223372036854775808 := by omega
  split
  · rename_i h
    rw [h]
    show IntKind.i64.wrap ((BitVec.ofInt 64 (y : Int) ^^^ BitVec.ofInt 64 (-1)).toNat : Int) = _
    have h3 : BitVec.ofInt 64 (-1) = BitVec.allOnes 64 := by decide
    rw [h3, BitVec.xor_allOnes, BitVec.toNat_not, BitVec.ofInt_natCast, BitVec.toNat_ofNat, IntKind.wrap_i64]
    omega
  · rename_i h
    have h0 : x % 2 = 0 := by omega
    rw [h0]
    show IntKind.i64.wrap ((BitVec.ofInt 64 (y : Int) ^^^ BitVec.ofInt 64 (-0)).toNat : Int) = _
    have h3 : BitVec.ofInt 64 (-0) = BitVec.ofNat 64 0 := by decide
    rw [h3, BitVec.xor_zero, BitVec.ofInt_natCast, BitVec.toNat_ofNat, IntKind.wrap_i64]
    omega

set_option maxHeartbeats 400000 in
theorem unfold_any (x : Nat) (w : World) (h2 : x < 18446744073709551616) :
    Calls Try.prog 48 #[.int .u64 (x : Int)] w fun e w' => e = .returned (.int .i64 (unfoldZ x)) ∧ w = w' := by
  go_enter Try.func48, Try.ntmps48
  go_wp2
  go_ret
  exact ⟨ret_i (unfold_out x h2), rfl⟩

theorem ref_fold_any (x : Int) (w : World) (h1 : -9223372036854775808 ≤ x) (h2 : x ≤ 9223372036854775807) :
    Calls Try.prog 31 #[.int .i64 x] w fun e w' => e = .returned (.int .u64 (foldN x : Nat)) ∧ w = w' := by
  go_enter Try.func31, Try.ntmps31
  go_wp2
  all_goals (go_ret; exact ⟨ret_i (by unfold foldN; split <;> omega), rfl⟩)

theorem psize_any (x : Nat) (w : World) (h2 : x < 18446744073709551616) :
    Calls Try.prog 44 #[.int .u64 (x : Int)] w fun e w' => e = .returned (.int .i64 (psz x : Nat)) ∧ w = w' := by
  go_enter Try.func44, Try.ntmps44
  go_wp2_with (go_at_call 49; refine (Try.bits_Len64 _ _ (by omega) (by omega)).mono ?_; rintro e w' ⟨rfl, rfl⟩)
  go_ret
  refine ⟨ret_i ?_, rfl⟩
  have hb := bitLen_le x
  rw [psz_bits x h2, wrap64_id (x := (Lib.bitLen x : Int) + 7) (by omega) (by omega), wrap64_id (x := (Lib.bitLen x : Int) + 7 - 1) (by omega) (by omega), Int.tdiv_eq_ediv_of_nonneg (by omega), wrap64_id (by omega) (by omega)]
  omega

theorem fsize_any (n : Int) (w : World) :
    Calls Try.prog 37 #[.int .i64 n] w fun e w' => e = .returned (.bool (decide (n = 1 ∨ n = 2 ∨ n = 4 ∨ n = 8))) ∧ w = w' := by
  go_enter Try.func37, Try.ntmps37
  go_wp2
  all_goals (go_ret; exact ⟨ret_b (by rw [Bool.eq_iff_iff]; simp; try omega), rfl⟩)
end Go.Proofs.Ythdkfcbfjhdpoaa
