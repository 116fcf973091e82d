/- W4: layer 6: contracts of the document's answers: members, how many must agree, who leads. -/
import Derived.Test.YtfjgfaccfjdklaaW3
import Derived.Deep.DeepCutAuto
namespace Go.Proofs.Ytfjgfaccfjdklaa
open Go.RowKit Go.V
def szR (n : Int) (M : Nat) : Nat := if rgt n M then szM M else 0
theorem szR_bd (n : Int) (M : Nat) : szR n M = 0 ∨ (rgt n M = true ∧ szR n M = szM M ∧ 4 ≤ szR n M ∧ szR n M ≤ 7) := by
  unfold szR
  cases h : rgt n M with
  | true => have := rgt_sz h; exact .inr ⟨rfl, rfl, this.2.2.1, this.2.2.2⟩
  | false => exact .inl rfl
theorem szR_0 {n : Int} {M : Nat} (h : szR n M = 0) : rgt n M = false := by
  rcases hr : rgt n M with _ | _
  · rfl
  · unfold szR at h; rw [hr] at h; have := rgt_sz hr; simp at h; omega
theorem flt_R (n : Int) (M : Nat) : fltN n M = if szR n M = 7 then 2 else if 4 ≤ szR n M then 1 else 0 := by
  rcases szR_bd n M with h | ⟨h, h1, h2, h3⟩
  · unfold fltN; rw [szR_0 h, h]; rfl
  · unfold fltN; rw [if_pos h, ← h1]; split <;> (try rw [if_pos h2]) <;> omega
theorem quo_R (n : Int) (M : Nat) : quoN n M = if szR n M = 0 then 0 else (szR n M + fltN n M) / 2 + 1 := by
  rcases szR_bd n M with h | ⟨h, h1, h2, h3⟩
  · unfold quoN; rw [szR_0 h, if_pos h]; rfl
  · unfold quoN; rw [if_pos h, if_neg (by omega), h1]
theorem eno_R (n : Int) (M : Nat) : enoN n M = szR n M - fltN n M := by
  rcases szR_bd n M with h | ⟨h, h1, h2, h3⟩
  · unfold enoN; rw [szR_0 h, h]; simp
  · unfold enoN; rw [if_pos h, h1]
theorem som_R (n : Int) (M : Nat) : somN n M = if szR n M = 0 then 0 else fltN n M + 1 := by
  rcases szR_bd n M with h | ⟨h, h1, h2, h3⟩
  · unfold somN; rw [szR_0 h, if_pos h]; rfl
  · unfold somN; rw [if_pos h, if_neg (by omega)]
theorem has_mem (M : Nat) (i : Int) : hasB M i = true ↔ ∃ x ∈ memL M 16, (x : Int) = i := by
  unfold hasB
  rw [Bool.and_eq_true, decide_eq_true_iff]
  constructor
  · rintro ⟨h1, h2⟩
    exact ⟨i.toNat, (mem_iff M 16 _).2 ⟨by omega, h2⟩, by omega⟩
  · rintro ⟨x, hx, rfl⟩
    have := (mem_iff M 16 x).1 hx
    exact ⟨by omega, by rw [Int.toNat_natCast]; exact this.2⟩
end Go.Proofs.Ytfjgfaccfjdklaa
