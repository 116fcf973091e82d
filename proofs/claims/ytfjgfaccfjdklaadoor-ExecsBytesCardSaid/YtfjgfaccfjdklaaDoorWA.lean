/- WA: layer 6: the law ViewsBytes. -/
import Derived.Test.YtfjgfaccfjdklaaDoorW9
namespace Go.Proofs.YtfjgfaccfjdklaaDoor
open Go.RowKit Go.V
theorem fix2_eq (x : Nat) : fixR 2 x = [UInt8.ofNat (x / 256 % 256), UInt8.ofNat (x % 256)] := by
  unfold fixR
  rw [if_pos (by unfold okN; omega)]
  simp [fixB, List.range_succ]
theorem fix2_of (a b : UInt8) : fixR 2 (256 * a.toNat + b.toNat) = [a, b] := by
  have ha := a.toNat_lt
  have hb := b.toNat_lt
  rw [fix2_eq, show (256 * a.toNat + b.toNat) / 256 % 256 = a.toNat from by omega, show (256 * a.toNat + b.toNat) % 256 = b.toNat from by omega, UInt8.ofNat_toNat, UInt8.ofNat_toNat]
theorem put_got (b : List UInt8) (h : b.length = 4) (hr : rgt (nb b 0 2 : Nat) (nb b 2 2) = true) : putV (nb b 0 2 : Nat) (nb b 2 2) = b := by
  unfold putV
  rw [if_pos hr, Int.toNat_natCast]
  match b, h with
  | [a, c, d, e], _ =>
    have h1 : nb [a, c, d, e] 0 2 = 256 * a.toNat + c.toNat := by simp [nb]
    have h2 : nb [a, c, d, e] 2 2 = 256 * d.toNat + e.toNat := by simp [nb]
    rw [h1, h2, fix2_of, fix2_of]
    rfl
theorem got_put {n : Int} {M : Nat} (hM : M < 65536) (hr : rgt n M = true) : gotV (putV n M) = .tuple #[vw n M, .int .i64 0] := by
  have hz := rgt_sz hr
  obtain ⟨q, rfl⟩ := Int.eq_ofNat_of_zero_le hz.1
  have hp : putV (q : Int) M = [UInt8.ofNat (q / 256 % 256), UInt8.ofNat (q % 256), UInt8.ofNat (M / 256 % 256), UInt8.ofNat (M % 256)] := by
    unfold putV
    rw [if_pos hr, Int.toNat_natCast, fix2_eq, fix2_eq]
    rfl
  have h1 : nb (putV (q : Int) M) 0 2 = q := by
    rw [hp]; simp [nb]; omega
  have h2 : nb (putV (q : Int) M) 2 2 = M := by
    rw [hp]; simp [nb]; omega
  unfold gotV
  rw [h1, h2, if_pos ⟨by rw [hp]; rfl, hr⟩]
theorem got_form (b : List UInt8) : ∃ x y er : Nat, gotV b = .tuple #[.agg #[.int .i64 (x : Int), .int .u16 (y : Int)], .int .i64 (er : Int)] ∧ y < 65536 ∧ (er = 0 → putV (x : Int) y = b) ∧ er ≤ 2 := by
  have hn2 := nb_lt b 2 2
  unfold gotV
  split
  · rename_i h
    exact ⟨nb b 0 2, nb b 2 2, 0, rfl, by omega, fun _ => put_got b h.1 h.2, by omega⟩
  · split
    · exact ⟨0, 0, 1, rfl, by omega, fun h => by omega, by omega⟩
    · exact ⟨0, 0, 2, rfl, by omega, fun h => by omega, by omega⟩
theorem put_len (n : Int) (M : Nat) : (putV n M).length ≤ 4 := by
  unfold putV
  split
  · rw [List.length_append, len_fix2, len_fix2]; omega
  · simp
end Go.Proofs.YtfjgfaccfjdklaaDoor
