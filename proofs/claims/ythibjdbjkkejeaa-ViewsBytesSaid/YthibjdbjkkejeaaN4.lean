/- N4: contracts of a reader's methods: those that only look. -/
import Derived.Test.YthibjdbjkkejeaaN3
namespace Go.Proofs.Ythibjdbjkkejeaa
open Go.RowKit Go.V

def rp (p : Nat) : Value := .pointer (some ⟨p, 0, none⟩)
theorem RdR.cells {w : World} {p : Nat} {F : Nat → Prop} {bs : List UInt8} {k : Nat} (h : RdR w p F bs k) :
    ∃ A c, w.cell? ⟨p, 0, none⟩ = some (.slice A bs.length c) ∧ w.cell? ⟨p, 1, none⟩ = some (.int .i64 (k : Int)) ∧ bs.length ≤ 9223372036854775807 ∧ Rd w F (.slice A bs.length c) (bys bs) ∧ k ≤ bs.length := by
  obtain ⟨v, hh, hr, hk, _⟩ := h
  obtain ⟨A, c, rfl, h1, h2, _⟩ := hr.bytes
  unfold maxLen at h2
  exact ⟨A, c, by simp [World.cell?, hh], by simp [World.cell?, hh], by omega, hr, hk⟩

theorem left_any (p : Nat) (F : Nat → Prop) (bs : List UInt8) (k : Nat) (w : World) (h : RdR w p F bs k) :
    Calls Try.prog 47 #[rp p] w fun e w' => e = .returned (.int .i64 ((bs.length : Int) - (k : Int))) ∧ ∃ n, w' = w.drewN n := by
  obtain ⟨A, c, h0, h1, hm, _, hk⟩ := h.cells
  unfold rp
  go_enter Try.func47, Try.ntmps47
  go_wp2
  go_quiet (fail)
  go_wp2
  go_ret
  exact ⟨rfl, _, rfl⟩

theorem done_any (p : Nat) (F : Nat → Prop) (bs : List UInt8) (k : Nat) (w : World) (h : RdR w p F bs k) :
    Calls Try.prog 39 #[rp p] w fun e w' => e = .returned (.int .i64 (if k < bs.length then 2 else 0)) ∧ ∃ n, w' = w.drewN n := by
  unfold rp
  have hk := h.cells
  obtain ⟨_, _, _, _, hm, _, hk⟩ := hk
  by_cases hlt : k < bs.length
  · rw [if_pos hlt]
    go_enter Try.func39, Try.ntmps39
    go_wp2_with (fail)
    refine (left_any p F bs k _ h).mono ?_
    rintro e w1 ⟨rfl, n, rfl⟩
    go_wp2
    go_ret
    exact ⟨rfl, _, rfl⟩
  · rw [if_neg hlt]
    go_enter Try.func39, Try.ntmps39
    go_wp2_with (fail)
    refine (left_any p F bs k _ h).mono ?_
    rintro e w1 ⟨rfl, n, rfl⟩
    go_wp2
    go_ret
    exact ⟨rfl, _, rfl⟩

def eP (r : Except Nat (Nat × Nat)) : Ending := match r with
  | .ok (x, n) => .returned (.tuple #[.int .u64 (x : Int), .int .i64 (n : Int), .int .i64 0])
  | .error e => .returned (.tuple #[.int .u64 0, .int .i64 0, .int .i64 (e : Int)])

theorem or_acc (x y i : Nat) (hy : y < 256) (hi : i ≤ 9) (hx : x < 128 ^ i) :
    bits BinOp.or IntKind.u64 (x : Int) (IntKind.u64.wrap (IntKind.u64.wrap (bits BinOp.andNot IntKind.u8 (y : Int) 128) * 2 ^ (7 * i))) = ((x ||| (y % 128 * 128 ^ i % 18446744073709551616) : Nat) : Int) := by
  have h1 : bits .andNot .u8 (y : Int) 128 = ((y &&& (255 - 128) : Nat) : Int) := u8_andNot_nat y 128 hy (by omega)
  rw [show 255 - 128 = 127 from rfl, nat_mask7] at h1
  have hp : 128 ^ i ≤ 128 ^ 9 := Nat.pow_le_pow_right (by omega) hi
  have e2 : (2 : Int) ^ (7 * i) = ((128 ^ i : Nat) : Int) := by
    rw [show (2 : Int) ^ (7 * i) = ((2 ^ (7 * i) : Nat) : Int) from by push_cast; rfl, Nat.pow_mul]
  have e3 : ((y % 128 : Nat) : Int) * ((128 ^ i : Nat) : Int) = ((y % 128 * 128 ^ i : Nat) : Int) := by push_cast; rfl
  have e4 : (((y % 128 * 128 ^ i : Nat) : Int)) % 18446744073709551616 = ((y % 128 * 128 ^ i % 18446744073709551616 : Nat) : Int) := by generalize y % 128 * 128 ^ i = q; omega
  have hy2 : ((y % 128 : Nat) : Int) % 18446744073709551616 = ((y % 128 : Nat) : Int) := by omega
  have hb : x < 18446744073709551616 := by omega
  simp only [h1, IntKind.wrap_u64, hy2, e2, e3, e4]
  exact u64_or_nat _ _ hb (Nat.mod_lt _ (by omega))
theorem or_join (x y i : Nat) (hx : x < 128 ^ i) (hf : y % 128 * 128 ^ i < 18446744073709551616) : x ||| (y % 128 * 128 ^ i % 18446744073709551616) = x + 128 ^ i * (y % 128) := by
  rw [Nat.mod_eq_of_lt hf, Nat.or_comm, show 128 ^ i = 2 ^ (7 * i) from by rw [Nat.pow_mul]]
  rw [show 128 ^ i = 2 ^ (7 * i) from by rw [Nat.pow_mul]] at hx
  rw [nat_join (7 * i) _ _ (Nat.mul_mod_left _ _) hx, Nat.mul_comm, Nat.add_comm]
theorem fits8 (y i : Nat) (hi : i ≤ 8) : y % 128 * 128 ^ i < 18446744073709551616 := by
  have hp : 128 ^ i ≤ 128 ^ 8 := Nat.pow_le_pow_right (by omega) hi
  have h1 : y % 128 < 128 := Nat.mod_lt _ (by omega)
  have := Nat.mul_le_mul (Nat.le_of_lt h1) hp
  omega
theorem fits9 (y i : Nat) (hi : i ≤ 9) (hy : y ≤ 1) : y % 128 * 128 ^ i < 18446744073709551616 := by
  have hp : 128 ^ i ≤ 128 ^ 9 := Nat.pow_le_pow_right (by omega) hi
  have h1 : y % 128 ≤ 1 := by omega
  have := Nat.mul_le_mul h1 hp
  omega

theorem or_val {x y i a : Nat} (hx : x = a) (ha : a < 128 ^ i) (hy : y < 128) (hi : i ≤ 9) (hf : i ≤ 8 ∨ y ≤ 1) :
    bits BinOp.or IntKind.u64 (x : Int) (IntKind.u64.wrap (IntKind.u64.wrap (bits BinOp.andNot IntKind.u8 (y : Int) 128) * 2 ^ (7 * i))) = ((a + 128 ^ i * y : Nat) : Int) := by
  subst hx
  rw [or_acc x y i (by omega) hi ha, or_join x y i ha (by rcases hf with h | h; exact fits8 _ _ h; exact fits9 _ _ hi h), Nat.mod_eq_of_lt hy]
end Go.Proofs.Ythibjdbjkkejeaa
