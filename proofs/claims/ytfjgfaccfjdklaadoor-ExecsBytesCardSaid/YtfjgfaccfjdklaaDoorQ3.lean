/- Q3: layer 7: a request's text: contracts of Text, by the program and by the document. -/
import Derived.Test.YtfjgfaccfjdklaaDoorQ2
import Derived.Test.YtfjgfaccfjdklaaDoorN3
import Derived.Test.YtfjgfaccfjdklaaDoorR2
import Derived.Test.YtfjgfaccfjdklaaDoorVA
namespace Go.V
open Go.RowKit
def in64 (x : Int) : Prop := -9223372036854775808 ≤ x ∧ x ≤ 9223372036854775807
def Rq.four (r : Rq) : List UInt8 := [UInt8.ofNat r.c.toNat, UInt8.ofNat r.s.toNat, UInt8.ofNat r.k.toNat, UInt8.ofNat r.y.toNat]
def Rq.text (r : Rq) : List UInt8 := (r.four ++ packed (foldN r.a)) ++ packed (foldN r.b)
def Rq.txt (r : Rq) : List UInt8 := if r.fm then r.text else []
theorem fm_bd {r : Rq} (h : r.fm = true) : ∃ c s k y : Nat, r.c = c ∧ r.s = s ∧ r.k = k ∧ r.y = y ∧ c ≤ 5 ∧ 1 ≤ s ∧ s ≤ 8 ∧ k ≤ 6 ∧ y ≤ 15 ∧ r.g.length ≤ 1000 := by
  unfold Rq.fm at h
  rw [decide_eq_true_iff] at h
  obtain ⟨h1, h2, h3, h4, h5, h6⟩ := h
  have hk : 0 ≤ r.k ∧ r.k ≤ 6 ∧ 0 ≤ r.y ∧ r.y ≤ 15 := by
    unfold rgtO at h5
    split at h5
    · rw [decide_eq_true_iff] at h5; omega
    · rw [decide_eq_true_iff] at h5; omega
  exact ⟨r.c.toNat, r.s.toNat, r.k.toNat, r.y.toNat, by omega, by omega, by omega, by omega, by omega, by omega, by omega, by omega, by omega, h6⟩
theorem len_four (r : Rq) : r.four.length = 4 := rfl
theorem len_text (r : Rq) : r.text.length ≤ 24 ∧ 6 ≤ r.text.length := by
  unfold Rq.text
  have h1 := psz_bd (foldN r.a)
  have h2 := psz_bd (foldN r.b)
  rw [List.length_append, List.length_append, length_packed, length_packed, len_four]
  omega
end Go.V
namespace Go.Proofs.YtfjgfaccfjdklaaDoor
open Go.RowKit Go.V
theorem fix1_eq (n : Nat) (h : n < 256) : fixR 1 n = [UInt8.ofNat n] := by
  unfold fixR
  rw [if_pos (by unfold okN; omega)]
  simp [fixB, List.range_succ, Nat.mod_eq_of_lt h]
theorem four_at (c s k y : Nat) (hc : c < 256) (hs : s < 256) (hk : k < 256) (hy : y < 256) (i : Nat) (hi : i < 4) : ∃ n : Nat, n < 256 ∧ ([.int .i64 (c : Int), .int .i64 (s : Int), .int .i64 (k : Int), .int .i64 (y : Int)] : List Value)[i]? = some (.int .i64 (n : Int)) ∧
    [UInt8.ofNat c, UInt8.ofNat s, UInt8.ofNat k, UInt8.ofNat y].take (i + 1) = [UInt8.ofNat c, UInt8.ofNat s, UInt8.ofNat k, UInt8.ofNat y].take i ++ [UInt8.ofNat n] := by
  match i, hi with
  | 0, _ => exact ⟨c, hc, rfl, rfl⟩
  | 1, _ => exact ⟨s, hs, rfl, rfl⟩
  | 2, _ => exact ⟨k, hk, rfl, rfl⟩
  | 3, _ => exact ⟨y, hy, rfl, rfl⟩
end Go.Proofs.YtfjgfaccfjdklaaDoor
