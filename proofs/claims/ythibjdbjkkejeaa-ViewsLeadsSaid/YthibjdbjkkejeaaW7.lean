/- W7: layer 6: the law ViewsLeads. -/
import Derived.Test.YthibjdbjkkejeaaW5
namespace Go.V
open Go.RowKit
/-- who leads regency r + j -/
def ldr (M r j : Nat) : Nat := (memL M 16).getD ((r + j) % szM M) 0
/-- the bits of those who led the first k -/
def metF (M r : Nat) : Nat → Nat
  | 0 => 0
  | k + 1 => metF M r k ||| 2 ^ ldr M r k
theorem met_bit (M r x : Nat) : ∀ k, (metF M r k).testBit x = true ↔ ∃ j, j < k ∧ ldr M r j = x
  | 0 => by simp [metF]
  | k + 1 => by
    rw [metF, Nat.testBit_or, Bool.or_eq_true, met_bit M r x k, Nat.testBit_two_pow, decide_eq_true_iff]
    constructor
    · rintro (⟨j, hj, h⟩ | h)
      · exact ⟨j, by omega, h⟩
      · exact ⟨k, by omega, h⟩
    · rintro ⟨j, hj, h⟩
      rcases Nat.lt_or_ge j k with h1 | h1
      · exact .inl ⟨j, h1, h⟩
      · rw [show j = k from by omega] at h; exact .inr h
theorem ldr_at (M r j : Nat) (h : 0 < szM M) : (memL M 16)[(r + j) % szM M]? = some (ldr M r j) := by
  have hlt : (r + j) % szM M < (memL M 16).length := Nat.mod_lt _ h
  unfold ldr
  rw [List.getD, List.getElem?_eq_getElem hlt]
  rfl
theorem ldr_mem (M r j : Nat) (h : 0 < szM M) : ldr M r j < 16 ∧ mbit M (ldr M r j) = true := (mem_iff M 16 _).1 (List.mem_of_getElem? (ldr_at M r j h))
theorem ldr_inj (M r j k : Nat) (hj : j < k) (hk : k < szM M) : ldr M r j ≠ ldr M r k := by
  intro h
  have h1 := ldr_at M r j (by omega)
  have h2 := ldr_at M r k (by omega)
  rw [h] at h1
  obtain ⟨l1, e1⟩ := List.getElem?_eq_some_iff.1 h1
  obtain ⟨l2, e2⟩ := List.getElem?_eq_some_iff.1 h2
  have hpw := List.pairwise_iff_getElem.1 (memL_nodup M 16)
  have : (r + j) % szM M = (r + k) % szM M := by
    rcases Nat.lt_trichotomy ((r + j) % szM M) ((r + k) % szM M) with h3 | h3 | h3
    · exact absurd (e1.trans e2.symm) (hpw _ _ l1 l2 h3)
    · exact h3
    · exact absurd (e2.trans e1.symm) (hpw _ _ l2 l1 h3)
  have hs : 0 < szM M := by omega
  have h3 := Nat.div_add_mod (r + j) (szM M)
  have h4 := Nat.div_add_mod (r + k) (szM M)
  rw [this] at h3
  have h5 : szM M * ((r + k) / szM M) = szM M * ((r + j) / szM M) + (k - j) := by omega
  have h6 : k - j = szM M * ((r + k) / szM M - (r + j) / szM M) := by rw [Nat.mul_sub]; omega
  rcases Nat.eq_zero_or_pos ((r + k) / szM M - (r + j) / szM M) with h7 | h7
  · rw [h7] at h6; omega
  · have := Nat.le_mul_of_pos_right (szM M) h7; omega
theorem ldr_sur (M r x : Nat) (hx : x ∈ memL M 16) : ∃ j, j < szM M ∧ ldr M r j = x := by
  obtain ⟨p, hp⟩ := List.mem_iff_getElem?.1 hx
  have hps : p < szM M := (List.getElem?_eq_some_iff.1 hp).1
  have hr : r % szM M < szM M := Nat.mod_lt _ (by omega)
  refine ⟨(p + (szM M - r % szM M)) % szM M, Nat.mod_lt _ (by omega), ?_⟩
  have e : (r + (p + (szM M - r % szM M)) % szM M) % szM M = p := by
    rw [Nat.add_mod, Nat.mod_mod, ← Nat.add_mod, Nat.add_mod r, ← Nat.mod_mod r, ← Nat.add_mod, Nat.mod_mod, show r % szM M + (p + (szM M - r % szM M)) = p + szM M from by omega, Nat.add_mod_right, Nat.mod_eq_of_lt hps]
  have h2 := ldr_at M r ((p + (szM M - r % szM M)) % szM M) (by omega)
  rw [e, hp] at h2
  injection h2 with h2
  exact h2.symm
theorem met_all (M r : Nat) (h : M < 65536) : metF M r (szM M) = M := by
  apply Nat.eq_of_testBit_eq
  intro x
  rw [Bool.eq_iff_iff, met_bit]
  constructor
  · rintro ⟨j, hj, rfl⟩
    have := (ldr_mem M r j (by omega)).2
    rwa [mbit_test] at this
  · intro hb
    refine ldr_sur M r x ((mem_iff M 16 x).2 ⟨?_, by rw [mbit_test]; exact hb⟩)
    rcases Nat.lt_or_ge x 16 with h1 | h1
    · exact h1
    · rw [Nat.testBit_lt_two_pow (Nat.lt_of_lt_of_le h (Nat.pow_le_pow_right (n := 2) (i := 16) (by omega) h1))] at hb
      cases hb
theorem met_lt (M r k : Nat) (h : 0 < szM M) : metF M r k < 65536 := by
  apply Nat.lt_pow_two_of_testBit (n := 16)
  intro i hi
  rw [Bool.eq_false_iff]
  intro hb
  obtain ⟨j, _, hj⟩ := (met_bit M r i k).1 hb
  have := (ldr_mem M r j h).1
  omega
theorem met_free (M r k : Nat) (hk : k < szM M) : mbit (metF M r k) (ldr M r k) = false := by
  rw [mbit_test, Bool.eq_false_iff]
  intro hb
  obtain ⟨j, hj, he⟩ := (met_bit M r _ k).1 hb
  exact ldr_inj M r j k hj hk he
end Go.V
namespace Go.Proofs.Ythibjdbjkkejeaa
open Go.RowKit Go.V
theorem bit_ne (M k : Nat) (h : M < 65536) : (bits .and .u16 ((M : Int) / 2 ^ k) 1 != 0) = mbit M k := by
  have e : (M : Int) / 2 ^ k = ((M / 2 ^ k : Nat) : Int) := by rw [Int.natCast_ediv, Int.natCast_pow]; rfl
  have hd : M / 2 ^ k < 65536 := Nat.lt_of_le_of_lt (Nat.div_le_self _ _) h
  have := u16_and_nat (M / 2 ^ k) 1 hd (by omega)
  rw [show M / 2 ^ k &&& 1 = M / 2 ^ k % 2 from Nat.and_two_pow_sub_one_eq_mod _ 1] at this
  rw [e, show (1 : Int) = ((1 : Nat) : Int) from rfl, this]
  unfold mbit
  rw [Bool.eq_iff_iff, bne_iff_ne, decide_eq_true_iff]
  omega
theorem or_bit (m x : Nat) (hm : m < 65536) (hx : x < 16) : bits BinOp.or IntKind.u16 (m : Int) (IntKind.u16.wrap (2 ^ x)) = ((m ||| 2 ^ x : Nat) : Int) := by
  have hp : 2 ^ x ≤ 2 ^ 15 := Nat.pow_le_pow_right (by omega) (by omega)
  have e : IntKind.u16.wrap ((2 : Int) ^ x) = ((2 ^ x : Nat) : Int) := by
    obtain ⟨q, hq⟩ : ∃ q, q = 2 ^ x := ⟨_, rfl⟩
    rw [show (2 : Int) ^ x = ((2 ^ x : Nat) : Int) from by push_cast; rfl, ← hq, IntKind.wrap_u16]
    rw [← hq] at hp
    omega
  rw [e]
  exact u16_or_nat m (2 ^ x) hm (Nat.lt_of_le_of_lt hp (by omega))
theorem leadZ_ldr (n : Int) (M r k : Nat) (h : rgt n M = true) : leadZ n M ((r : Int) + (k : Int)) = (ldr M r k : Int) := by
  unfold leadZ
  rw [if_pos ⟨h, by omega⟩]
  unfold ldr
  rw [show ((r : Int) + (k : Int)).toNat = r + k from by omega]
set_option maxRecDepth 100000 in
set_option maxHeartbeats 1000000 in
theorem viewsLeads_law (n : Int) (M r : Nat) (w : World) (h : M < 65536) (hr16 : r < 65536) :
    Calls Try.prog 7 #[vw n M, .int .u16 (r : Int)] w fun e w' => e = .returned (.bool true) ∧ Below w.heap.size w w' := by
  have hrt := (right_any n M · h)
  have hmem := (members_any n M · h)
  have hhas := (fun (k : Nat) W hk => has_any n M (k : Int) W h (by omega) (hk : (k : Int) ≤ 9223372036854775807))
  have hld := (fun (z : Int) W h1 h2 => leadr_any n M z W h (h1 : -9223372036854775808 ≤ z) h2)
  have hz := rgt_sz (n := n) (M := M)
  unfold vw at hrt hmem hhas hld ⊢
  have hvb := Blk.new' w 24 [.int .i64 n, .int .u16 (M : Int)]
  have hB : Below w.heap.size w (w.alloc (.cells #[.int .i64 n, .int .u16 (M : Int)] 24)) := (Below.refl _ _).alloc (Nat.le_refl _) _
  go_enter Try.func7, Try.ntmps7
  go_wp2_with (fail)
  obtain ⟨w0, hw0⟩ : ∃ w0, w0 = w.alloc (.cells #[.int .i64 n, .int .u16 (M : Int)] 24) := ⟨_, rfl⟩
  rw [← hw0] at hvb hB ⊢
  clear hw0
  obtain ⟨g, hg⟩ : ∃ g, g = w.heap.size := ⟨_, rfl⟩
  rw [← hg] at hvb ⊢
  clear hg
  refine (wakes6_any _).mono ?_
  rintro e w1 ⟨rfl, hB1⟩
  have hv1 := hvb.below hB1
  have hB1' := hB.trans (hB1.mono hB.size)
  have c0 := hv1.cellAt 0 _ rfl
  have c1 := hv1.cellAt 1 _ rfl
  go_wp2_with (fail)
  refine (hrt _).mono ?_
  rintro e w2 ⟨rfl, hB2⟩
  have hv2 := hv1.below hB2
  have hB2' := hB1'.trans (hB2.mono hB1'.size)
  clear c0 c1 hvb hv1
  have c0 := hv2.cellAt 0 _ rfl
  have c1 := hv2.cellAt 1 _ rfl
  cases hr : rgt n M with
  | false =>
    have hq : leadZ n M (r : Int) = -1 := by unfold leadZ; rw [hr, if_neg (by intro h; cases h.1)]
    have Hq := hid hq
    clear hq hr hz
    go_wp2_with (fail)
    refine (hld (r : Int) _ (by omega) (by omega)).mono ?_
    rintro e w3 ⟨rfl, hB3⟩
    rw [Hq.out]
    go_wp2
    go_ret
    exact ⟨rfl, hB2'.trans (hB3.mono hB2'.size)⟩
  | true =>
  have hs4 : 4 ≤ szM M := (hz hr).2.2.1
  have hs7 : szM M ≤ 7 := (hz hr).2.2.2
  have Hr := hid hr
  clear hz hr
  obtain ⟨s, hs⟩ : ∃ s, s = szM M := ⟨_, rfl⟩
  have Hs := hid hs
  rw [← hs] at hs4 hs7
  clear hs
  go_wp2_with (fail)
  refine (hmem _).mono ?_
  rintro e w3 ⟨v3, rfl, ho3, hB3⟩
  rw [mem_16, ← Hs.out] at ho3
  obtain ⟨A3, k3, rfl⟩ := own_shape ho3
  have hv3 := hv2.below hB3
  have hB3' := hB2'.trans (hB3.mono hB2'.size)
  clear c0 c1 ho3 hv2
  go_wp2
  go_loopw [6, 23] (fun mv iv wr => ∃ k : Nat, k ≤ s ∧ iv = .int .i64 (k : Int) ∧ mv = .int .u16 ((metF M r k : Nat) : Int) ∧ Blk wr g 24 [.int .i64 n, .int .u16 (M : Int)] ∧ Below w.heap.size w wr) (fun _ iv _ => s - (intOf iv).toNat)
  case atStart => exact ⟨0, by omega, rfl, rfl, hv3, hB3'⟩
  case round =>
    obtain ⟨k, hk, rfl, rfl, hvk, hBk⟩ := hrel
    have c0 := hvk.cellAt 0 _ rfl
    have c1 := hvk.cellAt 1 _ rfl
    by_cases hks : k < s
    · have hkI : (k : Int) < (s : Int) := by omega
      have hlz := leadZ_ldr n M r k Hr.out
      have hpos : 0 < szM M := by have := Hs.out; omega
      have hx16 := (ldr_mem M r k hpos).1
      have hxm := (ldr_mem M r k hpos).2
      have hmf := met_free M r k (by have := Hs.out; omega)
      have hm1 := met_lt M r k hpos
      have hnx : metF M r (k + 1) = metF M r k ||| 2 ^ ldr M r k := rfl
      have hhb : hasB M (ldr M r k : Int) = true := by
        unfold hasB
        rw [decide_eq_true (by omega), Bool.true_and, Int.toNat_natCast]
        exact hxm
      obtain ⟨x, hxe⟩ : ∃ x, x = ldr M r k := ⟨_, rfl⟩
      obtain ⟨m, hme⟩ : ∃ m, m = metF M r k := ⟨_, rfl⟩
      rw [← hxe] at hlz hx16 hmf hnx hhb
      rw [← hme] at hmf hnx hm1 ⊢
      have Hlz := hid hlz
      have Hnx := hid hnx
      have Hhb := hid hhb
      have hx0 : (0 : Int) ≤ (x : Int) := by omega
      clear hxe hme hlz hnx hhb hxm hpos
      go_wp2_with (fail)
      refine (hld ((r : Int) + (k : Int)) _ (by omega) (by omega)).mono ?_
      rintro e w4 ⟨rfl, hB4⟩
      rw [Hlz.out]
      have hv4 := hvk.below hB4
      have hB4' := hBk.trans (hB4.mono hBk.size)
      clear c0 c1
      have c0 := hv4.cellAt 0 _ rfl
      have c1 := hv4.cellAt 1 _ rfl
      go_wp2_with (fail)
      refine (hhas x _ (by omega)).mono ?_
      rintro e w5 ⟨rfl, hB5⟩
      rw [Hhb.out]
      have hv5 := hv4.below hB5
      have hB5' := hB4'.trans (hB5.mono hB4'.size)
      have hbt : (bits .and .u16 ((m : Int) / 2 ^ x) 1 != 0) = false := by rw [bit_ne m x hm1]; exact hmf
      clear hmf
      go_wp2
      refine ⟨⟨k + 1, by omega, by go_num, ?_, hv5, hB5'⟩, by simp [intOf]; omega⟩
      rw [Hnx.out, or_bit m x hm1 hx16]
    · have hks : k = s := by omega
      have hall := met_all M r h
      rw [← Hs.out, ← hks] at hall
      rw [hall]
      clear hall
      go_wp2
      go_ret
      exact ⟨ret_b (by simp), hBk⟩
end Go.Proofs.Ythibjdbjkkejeaa
