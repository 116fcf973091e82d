/- N4: contracts of a reader's methods: those that only look. -/
import Derived.Test.YthdkfcbfjhdpoaaN3
namespace Go.Proofs.Ythdkfcbfjhdpoaa
open Go.RowKit Go.V

def rp (p : Nat) : Value := .pointer (some ⟨p, 0, none⟩)
theorem RdR.cells {w : World} {p : Nat} {F : Nat → Prop} {bs : List UInt8} {k : Nat} (h : RdR w p F bs k) :
    ∃ A c, w.cell? ⟨p, 0, none⟩ = some (.slice A bs.length c) ∧ w.cell? ⟨p, 1, none⟩ = some (.int .i64 (k : Int)) ∧ bs.length ≤ 9223372036854775807 ∧ Rd w F (.slice A bs.length c) (bys bs) ∧ k ≤ bs.length := by
  obtain ⟨v, hh, hr, hk, _⟩ := h
  obtain ⟨A, c, rfl, h1, h2, _⟩ := hr.bytes
  unfold maxLen at h2
  exact ⟨A, c, by simp [World.cell?, hh], by simp [World.cell?, hh], by omega, hr, hk⟩

theorem left_any (p : Nat) (F : Nat → Prop) (bs : List UInt8) (k : Nat) (w : World) (h : RdR w p F bs k) :
    Calls Try.prog 41 #[rp p] w fun e w' => e = .returned (.int .i64 ((bs.length : Int) - (k : Int))) ∧ ∃ n, w' = w.drewN n := by
  obtain ⟨A, c, h0, h1, hm, _, hk⟩ := h.cells
  unfold rp
  go_enter Try.func41, Try.ntmps41
  go_wp2
  go_quiet (fail)
  go_wp2
  go_ret
  exact ⟨rfl, _, rfl⟩

theorem done_any (p : Nat) (F : Nat → Prop) (bs : List UInt8) (k : Nat) (w : World) (h : RdR w p F bs k) :
    Calls Try.prog 27 #[rp p] w fun e w' => e = .returned (.int .i64 (if k < bs.length then 2 else 0)) ∧ ∃ n, w' = w.drewN n := by
  unfold rp
  have hk := h.cells
  obtain ⟨_, _, _, _, hm, _, hk⟩ := hk
  by_cases hlt : k < bs.length
  · rw [if_pos hlt]
    go_enter Try.func27, Try.ntmps27
    go_wp2_with (fail)
    refine (left_any p F bs k _ h).mono ?_
    rintro e w1 ⟨rfl, n, rfl⟩
    go_wp2
    go_ret
    exact ⟨rfl, _, rfl⟩
  · rw [if_neg hlt]
    go_enter Try.func27, Try.ntmps27
    go_wp2_with (fail)
    refine (left_any p F bs k _ h).mono ?_
    rintro e w1 ⟨rfl, n, rfl⟩
    go_wp2
    go_ret
    exact ⟨rfl, _, rfl⟩

def eP (r : Except Nat (Nat × Nat)) : Ending := match r with
  | .ok (x, n) => .returned (.tuple #[.int .u64 (x : Int), .int .i64 (n : Int), .int .i64 0])
  | .error e => .returned (.tuple #[.int .u64 0, .int .i64 0, .int .i64 (e : Int)])

theorem or_acc (x y i : Nat) (hy : y < 256) (hi : i ≤ 9) (hx : x < 128 ^ i) :
    bits BinOp.or IntKind.u64 (x : Int) (IntKind.u64.wrap (IntKind.u64.wrap (bits BinOp.andNot IntKind.u8 (y : Int) 128) * 2 ^ (7 * i))) = ((x ||| (y % 128 * 128 ^ i % 18446744073709551616) : Nat) : Int) := by
  have h1 : bits .andNot .u8 (y : Int) 128 = ((y &&& (255 - 128) : Nat) : Int) := u8_andNot_nat y 128 hy (by omega)
  rw [show 255 - 128 = 127 from rfl, nat_mask7] at h1
  have hp : 128 ^ i ≤ 128 ^ 9 := Nat.pow_le_pow_right (by omega) hi
  have e2 : (2 : Int) ^ (7 * i) = ((128 ^ i : Nat) : Int) := by
    rw [show (2 : Int) ^ (7 * i) = ((2 ^ (7 * i) : Nat) : Int) from by push_cast; rfl, Nat.pow_mul]
  have e3 : ((y % 128 : Nat) : Int) * ((128 ^ i : Nat) : Int) = ((y % 128 * 128 ^ i : Nat) : Int) := by push_cast; rfl
  have e4 : (((y % 128 * 128 ^ i : Nat) : Int)) % 18446744073709551616 = ((y % 128 * 128 ^ i % 18446744073709551616 : Nat) : Int) := by generalize y % 128 * 128 ^ i = q; omega
  have hy2 : ((y % 128 : Nat) : Int) % 18446744073709551616 = ((y % 128 : Nat) : Int) := by omega
  have hb : x < 18446744073709551616 := by omega
  simp only [h1, IntKind.wrap_u64, hy2, e2, e3, e4]
  exact u64_or_nat _ _ hb (Nat.mod_lt _ (by omega))
theorem or_join (x y i : Nat) (hx : x < 128 ^ i) (hf : y % 128 * 128 ^ i < 18446744073709551616) : x ||| (y % 128 * 128 ^ i % 18446744073709551616) = x + 128 ^ i * (y % 128) := by
  rw [Nat.mod_eq_of_lt hf, Nat.or_comm, show 128 ^ i = 2 ^ (7 * i) from by rw [Nat.pow_mul]]
  rw [show 128 ^ i = 2 ^ (7 * i) from by rw [Nat.pow_mul]] at hx
  rw [nat_join (7 * i) _ _ (Nat.mul_mod_left _ _) hx, Nat.mul_comm, Nat.add_comm]
theorem fits8 (y i : Nat) (hi : i ≤ 8) : y % 128 * 128 ^ i < 18446744073709551616 := by
  have hp : 128 ^ i ≤ 128 ^ 8 := Nat.pow_le_pow_right (by omega) hi
  have h1 : y % 128 < 128 := Nat.mod_lt _ (by omega)
  have := Nat.mul_le_mul (Nat.le_of_lt h1) hp
  omega
theorem fits9 (y i : Nat) (hi : i ≤ 9) (hy : y ≤ 1) : y % 128 * 128 ^ i < 18446744073709551616 := by
  have hp : 128 ^ i ≤ 128 ^ 9 := Nat.pow_le_pow_right (by omega) hi
  have h1 : y % 128 ≤ 1 := by omega
  have := Nat.mul_le_mul h1 hp
  omega

theorem or_val {x y i a : Nat} (hx : x = a) (ha : a < 128 ^ i) (hy : y < 128) (hi : i ≤ 9) (hf : i ≤ 8 ∨ y ≤ 1) :
    bits BinOp.or IntKind.u64 (x : Int) (IntKind.u64.wrap (IntKind.u64.wrap (bits BinOp.andNot IntKind.u8 (y : Int) 128) * 2 ^ (7 * i))) = ((a + 128 ^ i * y : Nat) : Int) := by
  subst hx
  rw [or_acc x y i (by omega) hi ha, or_join x y i ha (by rcases hf with h | h; exact fits8 _ _ h; exact fits9 _ _ hi h), Nat.mod_eq_of_lt hy]
set_option maxHeartbeats 1000000 in
set_option maxRecDepth 100000 in
theorem peek_any (p : Nat) (F : Nat → Prop) (bs : List UInt8) (k : Nat) (w : World) (h : RdR w p F bs k) :
    Calls Try.prog 46 #[rp p] w fun e w' => e = eP (readPk (bs.drop k)) ∧ ∃ n, w' = w.drewN n := by
  obtain ⟨A, c, h0, h1, hm, hr, hk⟩ := h.cells
  unfold rp
  go_enter Try.func46, Try.ntmps46
  go_wp2
  go_loopw [2, 11] (fun xv iv wr => ∃ i : Nat, i ≤ 10 ∧ k + i ≤ bs.length ∧ iv = .int .i64 i ∧ (∃ x : Nat, xv = .int .u64 (x : Int) ∧ (i ≤ 9 → x = accP i (bs.drop k))) ∧ big i (bs.drop k) ∧ ∃ n, wr = w.drewN n) (fun _ iv _ => 10 - (intOf iv).toNat)
  case atStart => exact ⟨0, by omega, by omega, rfl, ⟨0, rfl, fun _ => rfl⟩, trivial, 0, rfl⟩
  case round =>
    obtain ⟨i, hi, hki, rfl, ⟨x, rfl, hx⟩, hbig, n, rfl⟩ := hrel
    have hrw := h.drewN n
    by_cases h10 : i = 10
    · subst h10
      have hE := hid (readPk_end _ hbig)
      clear hbig hx
      go_wp2
      go_ret3
      exact ⟨by rw [hE.out]; rfl, _, rfl⟩
    · have hi10 : i < 10 := by omega
      have hx := hx (by omega)
      by_cases hend : k + i = bs.length
      · have hE := hid (readPk_short i _ hi10 (by simp; omega) hbig)
        have ht : ((i : Int) == (bs.length : Int) - (k : Int)) = true := beq_iff_eq.2 (by omega)
        clear hbig hx hend
        go_wp2_with (fail)
        refine (left_any p F bs k _ hrw).mono ?_
        rintro e w1 ⟨rfl, m, rfl⟩
        go_wp2
        go_ret3
        exact ⟨by rw [hE.out]; rfl, _, rfl⟩
      · have hlt : k + i < bs.length := by omega
        have ht : ((i : Int) == (bs.length : Int) - (k : Int)) = false := beq_eq_false_iff_ne.2 (by omega)
        obtain ⟨g, off, rfl, _, hcell⟩ := hr.byteAt (k + i) hlt
        have hget : (bs.drop k)[i]'(by simp; omega) = bs[k + i] := by simp
        obtain ⟨cc, hcc⟩ : ∃ cc, cc = bs[k + i] := ⟨_, rfl⟩
        rw [← hcc] at hcell hget
        have Hget := hid hget
        clear hcc hget hend
        have hc256 := cc.toNat_lt
        by_cases hc : 128 ≤ cc.toNat
        · have hacc := hid (accP_snoc i (bs.drop k) (by simp; omega))
          have hb2 := hid (big_snoc i (bs.drop k) (by simp; omega) hbig (by rw [Hget.out]; exact hc))
          have Hx := hid hx
          clear hbig hx
          go_wp2_with (fail)
          refine (left_any p F bs k _ hrw).mono ?_
          rintro e w1 ⟨rfl, m, rfl⟩
          go_wp2
          go_quiet (fail)
          go_wp2
          have hO := or_acc x cc.toNat i hc256 (by omega) (by rw [Hx.out]; exact accP_lt _ _)
          refine ⟨⟨i + 1, by omega, by omega, by go_num, ⟨_, by rw [hO], fun h9 => ?_⟩, hb2.out, _, rfl⟩, by simp [intOf]; omega⟩
          rw [or_join x cc.toNat i (by rw [Hx.out]; exact accP_lt _ _) (fits8 _ _ (by omega)), hacc.out, Hget.out, Hx.out]
        · have hl := hid (readPk_last i (bs.drop k) hi10 (by simp; omega) hbig (by rw [Hget.out]; omega))
          have hl' := hl.out
          rw [Hget.out] at hl'
          clear hl
          have hl := hid hl'
          clear hl'
          have Hx := hid hx
          clear hbig hx
          have hc' : cc.toNat < 128 := by omega
          go_wp2_with (fail)
          refine (left_any p F bs k _ hrw).mono ?_
          rintro e w1 ⟨rfl, m, rfl⟩
          go_wp2
          go_quiet (fail)
          go_wp2
          all_goals
            go_ret3
            refine ⟨?_, _, rfl⟩
            rw [hl.out]
            simp only [beq_iff_eq, beq_eq_false_iff_ne, ne_eq] at *
            first
              | (rw [if_pos (by omega)]; rfl)
              | (rw [if_neg (by omega)]; exact ret_iii (or_val Hx.out (accP_lt _ _) hc' (by omega) (by omega)) (by omega) rfl)
end Go.Proofs.Ythdkfcbfjhdpoaa
