/- W0: layer 6: the bits of a mask as a list; what two sets share. -/
import Derived.Test.YtfjgfaccfjdklaaV
namespace Go.V
/-- the bits of a mask, from the lowest on -/
def mbit (M i : Nat) : Bool := decide (M / 2 ^ i % 2 = 1)
def memL (M n : Nat) : List Nat := (List.range n).filter (mbit M)
theorem mem_succ (M n : Nat) : memL M (n + 1) = memL M n ++ (if mbit M n then [n] else []) := by
  unfold memL
  rw [List.range_succ, List.filter_append]
  congr 1
  simp [List.filter_cons]
theorem mem_len_le (M n : Nat) : (memL M n).length ≤ n := by
  unfold memL
  have := List.length_filter_le (mbit M) (List.range n)
  simpa using this
theorem mem_iff (M n i : Nat) : i ∈ memL M n ↔ i < n ∧ mbit M i = true := by
  unfold memL
  simp [List.mem_filter]
theorem mbit_test (M i : Nat) : mbit M i = M.testBit i := by
  unfold mbit
  rw [Nat.testBit_eq_decide_div_mod_eq]
theorem mbit_and (a b i : Nat) : mbit (a &&& b) i = (mbit a i && mbit b i) := by
  rw [mbit_test, mbit_test, mbit_test, Nat.testBit_and]
/-- two sets of members share so many as both together are more than all -/
theorem share (a b M n : Nat) : (memL (a &&& M) n).length + (memL (b &&& M) n).length ≤ (memL ((a &&& M) &&& (b &&& M)) n).length + (memL M n).length := by
  induction n with
  | zero => simp [memL]
  | succ n ih =>
    rw [mem_succ, mem_succ, mem_succ, mem_succ]
    simp only [List.length_append]
    rw [mbit_and (a &&& M), mbit_and a, mbit_and b]
    cases mbit a n <;> cases mbit b n <;> cases mbit M n <;> simp <;> omega
theorem memL_nodup (M n : Nat) : (memL M n).Nodup := List.nodup_range.sublist List.filter_sublist
end Go.V
