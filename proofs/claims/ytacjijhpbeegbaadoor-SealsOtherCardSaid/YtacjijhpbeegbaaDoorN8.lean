/- N8: what a reader says of bytes that were put, whole or cut off. -/
import Derived.Test.YtacjijhpbeegbaaDoorN6
import Derived.Test.YtacjijhpbeegbaaDoorN7
namespace Go.V
theorem rdF_cut : ∀ (k x : Nat) (first : Bool) (j : Nat), j < psF k x → rdF (k + 1) first ((packedF k x).take j) = .error 1
  | 0, x, first, j, h => by
    have : j = 0 := by simp [psF] at h; omega
    subst this
    rfl
  | k + 1, x, first, 0, h => rfl
  | k + 1, x, first, j + 1, h => by
    unfold psF at h
    split at h
    · omega
    · rename_i hx
      have e : (UInt8.ofNat (x % 128 + 128)).toNat = x % 128 + 128 := by simp [UInt8.toNat_ofNat']; omega
      rw [packedF, if_neg hx, List.take_succ_cons, rdF, e, if_neg (by omega), rdF_cut k (x / 128) false j (by omega)]
theorem readPk_cut (x : Nat) (R : List UInt8) (j : Nat) (h : j < psz x) : readPk ((packed x ++ R).take j) = .error 1 := by
  rw [List.take_append_of_le_length (by rw [length_packed]; omega)]
  exact rdF_cut 9 x true j h
end Go.V
namespace Go.Proofs.YtacjijhpbeegbaaDoor
open Go.RowKit Go.V
theorem textR_of (most : Int) (t R : List UInt8) (h : (t.length : Int) ≤ most) (hl : t.length < 18446744073709551616) : textR most ((packed t.length ++ t) ++ R) = .ok (t.length, psz t.length) := by
  unfold textR
  rw [List.append_assoc, readPk_packed _ _ hl]
  have hc : cntR most (.ok (t.length, psz t.length)) = .ok (t.length, psz t.length) := if_neg (by omega)
  rw [hc]
  dsimp only
  rw [if_neg (by simp only [List.length_append, length_packed]; omega)]
theorem cntR_of (most : Int) (x : Nat) (R : List UInt8) (h : (x : Int) ≤ most) (hl : x < 18446744073709551616) : cntR most (readPk (packed x ++ R)) = .ok (x, psz x) := by
  rw [readPk_packed _ _ hl]
  exact if_neg (by omega)
theorem cntR_cut (most : Int) (x : Nat) (R : List UInt8) (j : Nat) (h : j < psz x) : cntR most (readPk ((packed x ++ R).take j)) = .error 1 := by
  rw [readPk_cut _ _ _ h]
  rfl
theorem textR_cut (most : Int) (t R : List UInt8) (j : Nat) (h : (t.length : Int) ≤ most) (hl : t.length < 18446744073709551616) (hj : j < psz t.length + t.length) : textR most (((packed t.length ++ t) ++ R).take j) = .error 1 := by
  unfold textR
  rcases Nat.lt_or_ge j (psz t.length) with h1 | h1
  · rw [List.append_assoc, cntR_cut _ _ _ _ h1]
  · have e : ((packed t.length ++ t) ++ R).take j = packed t.length ++ (t ++ R).take (j - psz t.length) := by
      rw [List.append_assoc, List.take_append, List.take_of_length_le (by rw [length_packed]; omega), length_packed]
    rw [e, cntR_of _ _ _ h hl]
    dsimp only
    rw [if_pos]
    rw [List.length_append, length_packed, List.length_take]
    omega
theorem textR_more (most : Int) (t R : List UInt8) (j : Nat) (h : (t.length : Int) ≤ most) (hl : t.length < 18446744073709551616) (hj : psz t.length + t.length ≤ j) : textR most (((packed t.length ++ t) ++ R).take j) = .ok (t.length, psz t.length) := by
  have e : ((packed t.length ++ t) ++ R).take j = (packed t.length ++ t) ++ R.take (j - (psz t.length + t.length)) := by
    rw [List.take_append, List.take_of_length_le (by rw [List.length_append, length_packed]; omega), List.length_append, length_packed]
  rw [e]
  exact textR_of most t _ h hl
theorem fixRd_short (n : Nat) (l : List UInt8) (ho : okN (n : Int)) (h : l.length < n) : fixRd (n : Int) l = .error 1 := by
  unfold fixRd
  rw [if_pos ho, Int.toNat_natCast, if_pos h]
theorem fixRd_of (n x : Nat) (R : List UInt8) (ho : okN (n : Int)) (hx : x < 256 ^ n) : fixRd (n : Int) (fixR (n : Int) x ++ R) = .ok x := by
  have hf : fixR (n : Int) x = fixT n x n := by
    unfold fixR
    rw [if_pos ho, Int.toNat_natCast]
    rfl
  have hl : (fixT n x n).length = n := by simp [fixT]
  unfold fixRd
  rw [if_pos ho, Int.toNat_natCast, hf, if_neg (by rw [List.length_append, hl]; omega)]
  congr 1
  have ht : (fixT n x n ++ R).take n = fixT n x n := by
    have := List.take_left (l₁ := fixT n x n) (l₂ := R)
    rwa [hl] at this
  rw [ht, fixN_fixT n x n (Nat.le_refl _), Nat.sub_self, Nat.pow_zero, Nat.div_one, Nat.mod_eq_of_lt hx]
end Go.Proofs.YtacjijhpbeegbaaDoor
