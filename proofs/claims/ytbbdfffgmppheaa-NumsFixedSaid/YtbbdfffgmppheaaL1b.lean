/- L1b: the law NumsFixed of layer 1. -/
import Derived.Test.YtbbdfffgmppheaaL1
namespace Go.Proofs.Ytbbdfffgmppheaa
open Go.RowKit Go.V

theorem fixRd_fixR {m x : Nat} (hm : okN (m : Int)) : fixRd (m : Int) (fixR (m : Int) x) = .ok (x % 256 ^ m) := by
  have e : fixR (m : Int) x = fixT m x m := by unfold fixR; rw [if_pos hm]; rfl
  have hl : (fixT m x m).length = m := by simp [fixT]
  unfold fixRd
  rw [if_pos hm, e, Int.toNat_natCast, if_neg (by omega), List.take_of_length_le (by omega), fixN_fixT m x m (Nat.le_refl _), Nat.sub_self, Nat.pow_zero, Nat.div_one]
theorem length_fixR (n : Int) (x : Nat) : (fixR n x).length ≤ 8 := by
  unfold fixR
  split
  · rename_i h
    unfold okN at h
    simp [fixB]
    omega
  · simp

set_option maxHeartbeats 1000000 in
set_option maxRecDepth 100000 in
theorem fixed_law (v : Value) (bs : List UInt8) (x : Nat) (n : Int) (F : Nat → Prop) (w : World) (hb : Rd w F v (bys bs)) (hx : x < 18446744073709551616) :
    Calls Try.prog 4 #[v, .int .u64 (x : Int), .int .i64 n] w fun e w' => e = .returned (.bool true) ∧ Below w.heap.size w w' := by
  obtain ⟨A, c, rfl⟩ := hb.shape
  by_cases hlen : 2000 < bs.length
  · go_enter Try.func4, Try.ntmps4
    go_wp2_with (fail)
    refine (wakes_any _).mono ?_
    rintro e w1 ⟨rfl, hB1⟩
    go_wp2
    go_ret
    exact ⟨rfl, hB1⟩
  · have h0 := lit0
    have hfl := length_fixR n x
    go_enter Try.func4, Try.ntmps4
    go_wp2_with (fail)
    refine (wakes_any _).mono ?_
    rintro e w1 ⟨rfl, hB1⟩
    have hb1 := hb.below hB1
    have hal : Below w1.heap.size w1 (w1.alloc (.cells #[] 5)) := (Below.refl _ _).alloc (Nat.le_refl _) _
    go_wp2_with (at_builtin; refine wp_app _ _ slB rfl rfl rfl (lit0_own w1 w1.heap.size (Nat.le_refl _)) rfl (hb1.below hal).src (oneCell_bvs bs) (by simp only [maxLen]; omega) (by omega) (by simp) ?_)
    intro v2 w2 ho2 hG2 _
    have ho2 : w2.ownsRow w1.heap.size 5 1 v2 bs.length (bvs bs) := by simpa using ho2
    have hB2 : Below w1.heap.size w1 w2 := hal.grown hG2 (by simp) (fun k hk => by simp [Value.ownBlock] at hk; omega)
    have hB2' := hB1.trans (hB2.mono hB1.size)
    clear h0
    go_wp2_with (fail)
    refine (putx_any v2 bs x n _ _ (Rd.of_own ho2) hx (by omega)).mono ?_
    rintro e w3 ⟨v3, rfl, ho3, hB3⟩
    have hB3' := hB2'.trans (hB3.mono hB2'.size)
    have h3 := Rd.of_own ho3
    rw [List.length_append] at ho3
    obtain ⟨A3, c3, rfl⟩ := own_shape ho3
    go_wp2_with (fail)
    refine (refx_any x n _ hx).mono ?_
    rintro e w4 ⟨v4, rfl, ho4, hB4⟩
    have hB4' := hB3'.trans (hB4.mono hB3'.size)
    have h3 := h3.below hB4
    go_wp2_with (fail)
    refine (join_any _ v4 bs (fixR n x) _ _ _ (hb.below hB4') (Rd.of_own ho4) (by omega) (by omega)).mono ?_
    rintro e w5 ⟨v5, rfl, ho5, hB5⟩
    have hB5' := hB4'.trans (hB5.mono hB4'.size)
    have h3 := h3.below hB5
    go_wp2_with (fail)
    refine (same_any _ v5 _ _ _ _ _ h3 (Rd.of_own ho5)).mono ?_
    rintro e w6 ⟨rfl, q, rfl⟩
    rw [decide_eq_true rfl]
    have h3 := h3.drewN q
    have hB6 := below_drewN hB5' q
    by_cases ho : okN n
    · obtain ⟨m, rfl, hm⟩ := okN_cases ho
      have hd : decide (okN (m : Int)) = true := decide_eq_true ho
      have hrd := fixRd_fixR (x := x) ho
      clear ho
      go_wp2_with (fail)
      refine (wide_any _ _).mono ?_
      rintro e w7 ⟨rfl, rfl⟩
      rw [okN_bool]
      obtain ⟨A', n', c', hsl, hcut⟩ := h3.cut_l slB ((bs.length : Nat) : Int) (by omega) (by simp; omega)
      rw [Int.toNat_natCast, List.drop_left] at hcut
      go_wp2_with (fail)
      refine (new_any _ _ _ _ hcut (by omega)).mono ?_
      rintro e w8 ⟨p, rfl, hp, hr8, hB8⟩
      have hB8' := hB6.trans (hB8.mono hB6.size)
      have hpw : w.heap.size ≤ p := Nat.le_trans hB6.size hp
      have hfx := fixed_any p _ _ _ (m : Int) _ hr8
      rw [List.drop_zero, hrd] at hfx
      have Hfx := hid hfx
      clear hfx hrd
      go_wp2_with (fail)
      refine Hfx.out.mono ?_
      rintro e w9 ⟨rfl, hr9, hC9⟩
      have hB9 : Below w.heap.size w w9 := Ch.below_of hB8' hC9 (fun k hk => by have : k = p := hk; omega) hB8'.size
      simp only [eF]
      rcases hm with rfl | rfl | rfl | rfl
      all_goals
        clear Hfx hd
        go_wp2
        go_ret
        refine ⟨?_, hB9⟩
        first | rfl | exact ret_b (beq_iff_eq.2 (by omega)) | exact ret_b (by simp; omega)
    · have hd : decide (okN n) = false := decide_eq_false ho
      clear ho
      go_wp2_with (fail)
      refine (wide_any _ _).mono ?_
      rintro e w7 ⟨rfl, rfl⟩
      rw [okN_bool]
      go_wp2
      go_ret
      exact ⟨rfl, hB6⟩
end Go.Proofs.Ytbbdfffgmppheaa
