/- W2: several texts in one (W1 W2). -/
import Derived.Test.YtnhhbbjkeekneaaDoorW0
import Derived.Test.YtnhhbbjkeekneaaDoorVA
import Derived.Test.YtnhhbbjkeekneaaDoorM1
import Derived.Lib.BitFns
import Derived.Test.YtnhhbbjkeekneaaDoorN3
/- W1: layer 6: contracts of package views: who is a member, and how many. -/
namespace Go.V
open Go.RowKit
/-- a view -/
def vw (n : Int) (M : Nat) : Value := .agg #[.int .i64 n, .int .u16 (M : Int)]
def szM (M : Nat) : Nat := (memL M 16).length
/-- is it a view that there may be? -/
def rgt (n : Int) (M : Nat) : Bool := decide (0 ≤ n ∧ n ≤ 60 ∧ 4 ≤ szM M ∧ szM M ≤ 7)
/-- is i a member? -/
def hasB (M : Nat) (i : Int) : Bool := decide (0 ≤ i ∧ i < 16) && mbit M i.toNat
theorem pop_mem : ∀ (n M : Nat), Lib.popAux n M = (memL M n).length
  | 0, M => by simp [memL, Lib.popAux]
  | n + 1, M => by
    have e : memL M (n + 1) = (if mbit M 0 then [0] else []) ++ (memL (M / 2) n).map (· + 1) := by
      unfold memL
      rw [List.range_succ_eq_map, List.filter_cons, List.filter_map]
      have : (mbit M ∘ Nat.succ) = mbit (M / 2) := by
        funext i
        simp only [Function.comp, mbit, Nat.succ_eq_add_one]
        rw [Nat.pow_succ, Nat.mul_comm, ← Nat.div_div_eq_div_mul]
      rw [this]
      split <;> simp
    rw [Lib.popAux, pop_mem n (M / 2), e]
    have h2 : M % 2 = (if mbit M 0 then [0] else [] : List Nat).length := by
      unfold mbit
      simp only [Nat.pow_zero, Nat.div_one]
      by_cases h : M % 2 = 1
      · simp [h]
      · simp [h]; omega
    rw [h2]
    simp
theorem pop_add : ∀ (a b M : Nat), Lib.popAux (a + b) M = Lib.popAux a M + Lib.popAux b (M / 2 ^ a)
  | 0, b, M => by simp [Lib.popAux]
  | a + 1, b, M => by
    rw [show a + 1 + b = (a + b) + 1 from by omega, Lib.popAux, Lib.popAux, pop_add a b, Nat.div_div_eq_div_mul, ← Nat.pow_succ', Nat.add_assoc]
theorem pop_low : ∀ (a M : Nat), Lib.popAux a (M % 2 ^ a) = Lib.popAux a M
  | 0, M => by simp [Lib.popAux]
  | a + 1, M => by
    rw [Lib.popAux, Lib.popAux]
    have e1 : M % 2 ^ (a + 1) % 2 = M % 2 := Nat.mod_mod_of_dvd _ ⟨2 ^ a, by rw [Nat.pow_succ, Nat.mul_comm]⟩
    have e2 : M % 2 ^ (a + 1) / 2 = M / 2 % 2 ^ a := by
      rw [Nat.pow_succ, Nat.mul_comm, Nat.mod_mul_right_div_self]
    rw [e1, e2, pop_low a]
theorem pop8_le : ∀ n : Fin 256, Lib.pop8 (n.val : Int) = (Lib.popAux 8 n.val : Int) := by decide +kernel
theorem pop8_of (n : Nat) (h : n < 256) : Lib.pop8 (n : Int) = ((Lib.popAux 8 n : Nat) : Int) := pop8_le ⟨n, h⟩
theorem pop_le (n M : Nat) : Lib.popAux n M ≤ n := by rw [pop_mem]; exact mem_len_le M n
theorem sz_pop (M : Nat) (h : M < 65536) : (szM M : Int) = Lib.pop8 ((M / 256 : Nat) : Int) + Lib.pop8 ((M % 256 : Nat) : Int) := by
  rw [pop8_of _ (by omega), pop8_of _ (by omega)]
  unfold szM
  rw [← pop_mem, show 16 = 8 + 8 from rfl, pop_add 8 8 M, show 256 = 2 ^ 8 from rfl, pop_low 8 M]
  omega
theorem sz_le (M : Nat) : szM M ≤ 16 := mem_len_le M 16
end Go.V
namespace Go.Proofs.YtnhhbbjkeekneaaDoor
open Go.RowKit Go.V

theorem and255 (M : Nat) (h : M < 65536) : bits .and .u16 (M : Int) 255 = (M : Int) % 256 := by
  have := u16_and_nat M 255 h (by omega)
  rw [show M &&& 255 = M % 256 from Nat.and_two_pow_sub_one_eq_mod M 8] at this
  rw [show ((255 : Nat) : Int) = 255 from rfl] at this
  rw [this]
  omega
theorem ones_any (M : Nat) (w : World) (h : M < 65536) :
    Calls Tryd.prog 20 #[.int .u16 (M : Int)] w fun e w' => e = .returned (.int .i64 (szM M : Int)) ∧ ∃ n, w' = w.drewN n := by
  have hz := sz_pop M h
  have hl := sz_le M
  have e1 := pop8_of (M / 256) (by omega)
  have e2 := pop8_of (M % 256) (by omega)
  have l1 := pop_le 8 (M / 256)
  have l2 := pop_le 8 (M % 256)
  have b1 : 0 ≤ (M : Int) / 256 := by omega
  have b2 : (M : Int) / 256 ≤ 255 := by omega
  have hand := and255 M h
  have HZ := hid hz
  have H1 := hid e1
  have H2 := hid e2
  clear hz e1 e2
  go_enter Tryd.func20, Tryd.ntmps20
  go_wp2
  go_quiet (fail)
  go_wp2
  go_ret
  refine ⟨ret_i ?_, _, rfl⟩
  rw [HZ.out, show (M : Int) / 256 = ((M / 256 : Nat) : Int) from rfl, show (M : Int) % 256 = ((M % 256 : Nat) : Int) from rfl, H1.out, H2.out]
  generalize Lib.popAux 8 (M / 256) = p at *
  generalize Lib.popAux 8 (M % 256) = q at *
  omega
set_option maxHeartbeats 400000 in
theorem size_any (n : Int) (M : Nat) (w : World) (h : M < 65536) :
    Calls Tryd.prog 30 #[vw n M] w fun e w' => e = .returned (.int .i64 (szM M : Int)) ∧ Below w.heap.size w w' := by
  unfold vw
  go_enter Tryd.func30, Tryd.ntmps30
  go_wp2_with (fail)
  refine (ones_any M _ h).mono ?_
  rintro e w1 ⟨rfl, k, rfl⟩
  go_wp2
  go_ret
  exact ⟨rfl, below_drewN ((Below.refl _ _).alloc (Nat.le_refl _) _) k⟩
theorem right_any (n : Int) (M : Nat) (w : World) (h : M < 65536) :
    Calls Tryd.prog 26 #[vw n M] w fun e w' => e = .returned (.bool (rgt n M)) ∧ Below w.heap.size w w' := by
  have hl := sz_le M
  have hsz := (size_any n M · h)
  unfold vw at hsz ⊢
  go_enter Tryd.func26, Tryd.ntmps26
  go_wp2_with (fail)
  refine (hsz _).mono ?_
  rintro e w1 ⟨rfl, hB1⟩
  have hb := (Blk.new' w 24 [.int .i64 n, .int .u16 (M : Int)]).below hB1
  have hB : Below w.heap.size w w1 := ((Below.refl _ _).alloc (Nat.le_refl _) _).trans (hB1.mono (by simp))
  have c0 := hb.cellAt 0 _ rfl
  obtain ⟨s, hs⟩ : ∃ s, s = szM M := ⟨_, rfl⟩
  have hr : rgt n M = decide (0 ≤ n ∧ n ≤ 60 ∧ 4 ≤ s ∧ s ≤ 7) := by rw [hs]; rfl
  rw [← hs] at hl ⊢
  have Hr := hid hr
  clear hr hs
  go_wp2
  all_goals (go_ret; exact ⟨by rw [Hr.out]; exact ret_b (by rw [Bool.eq_iff_iff]; simp; try omega), hB⟩)
theorem bit_eq (M k : Nat) (h : M < 65536) : (bits .and .u16 ((M : Int) / 2 ^ k) 1 == 1) = mbit M k := by
  have e : (M : Int) / 2 ^ k = ((M / 2 ^ k : Nat) : Int) := by rw [Int.natCast_ediv, Int.natCast_pow]; rfl
  have hd : M / 2 ^ k < 65536 := Nat.lt_of_le_of_lt (Nat.div_le_self _ _) h
  have := u16_and_nat (M / 2 ^ k) 1 hd (by omega)
  rw [show M / 2 ^ k &&& 1 = M / 2 ^ k % 2 from Nat.and_two_pow_sub_one_eq_mod _ 1] at this
  rw [e, show (1 : Int) = ((1 : Nat) : Int) from rfl, this]
  unfold mbit
  rw [Bool.eq_iff_iff, beq_iff_eq, decide_eq_true_iff]
  omega
theorem has_any (n : Int) (M : Nat) (i : Int) (w : World) (h : M < 65536) (_h1 : -9223372036854775808 ≤ i) (_h2 : i ≤ 9223372036854775807) :
    Calls Tryd.prog 25 #[vw n M, .int .i64 i] w fun e w' => e = .returned (.bool (hasB M i)) ∧ Below w.heap.size w w' := by
  have hb := Blk.new' w 24 [.int .i64 n, .int .u16 (M : Int)]
  have c1 := hb.cellAt 1 _ rfl
  have hB : Below w.heap.size w (w.alloc (.cells #[.int .i64 n, .int .u16 (M : Int)] 24)) := (Below.refl _ _).alloc (Nat.le_refl _) _
  unfold vw
  by_cases h0 : 0 ≤ i
  · obtain ⟨k, rfl⟩ := Int.eq_ofNat_of_zero_le h0
    by_cases h16 : k < 16
    · have hbit := bit_eq M k h
      have hq : hasB M (k : Int) = mbit M k := by
        unfold hasB
        rw [decide_eq_true (by omega), Bool.true_and, Int.toNat_natCast]
      have Hq := hid hq
      clear hq
      have hlt : (k : Int) < 16 := by omega
      go_enter Tryd.func25, Tryd.ntmps25
      go_wp2
      all_goals (go_ret; exact ⟨by rw [Hq.out]; rfl, hB⟩)
    · have Hq : Hid (hasB M (k : Int) = false) := by
        show _ = _
        unfold hasB
        rw [decide_eq_false (by omega), Bool.false_and]
      have hlt : ¬ (k : Int) < 16 := by omega
      go_enter Tryd.func25, Tryd.ntmps25
      go_wp2
      go_ret
      exact ⟨by rw [Hq.out]; rfl, hB⟩
  · have Hq : Hid (hasB M i = false) := by
      show _ = _
      unfold hasB
      rw [decide_eq_false (by omega), Bool.false_and]
    go_enter Tryd.func25, Tryd.ntmps25
    go_wp2
    go_ret
    exact ⟨by rw [Hq.out]; rfl, hB⟩
end Go.Proofs.YtnhhbbjkeekneaaDoor
/- W2: layer 6: contracts of package views: members, how many must agree, who leads. -/
namespace Go.V
open Go.RowKit
end Go.V
namespace Go.Proofs.YtnhhbbjkeekneaaDoor
open Go.RowKit Go.V
end Go.Proofs.YtnhhbbjkeekneaaDoor
