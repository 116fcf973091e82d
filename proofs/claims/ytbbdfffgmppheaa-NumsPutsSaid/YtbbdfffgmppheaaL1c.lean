/- L1c: the law NumsPuts of layer 1. -/
import Derived.Test.YtbbdfffgmppheaaL1
namespace Go.Proofs.Ytbbdfffgmppheaa
open Go.RowKit Go.V

theorem wrap_fold (x : Nat) : -9223372036854775808 ≤ wrap64 (x : Int) ∧ wrap64 (x : Int) ≤ 9223372036854775807 := by unfold wrap64; omega
theorem readPk_packed' (x : Nat) (h : x < 18446744073709551616) : readPk (packed x) = .ok (x, psz x) := by have := readPk_packed x [] h; rwa [List.append_nil] at this
theorem textR_text (ts : List UInt8) (h : ts.length < 18446744073709551616) : textR (ts.length : Int) (packed ts.length ++ ts) = .ok (ts.length, psz ts.length) := by
  unfold textR
  rw [readPk_packed _ _ h]
  simp only [cntR]
  rw [if_neg (by omega)]
  simp only
  rw [if_neg (by simp [length_packed])]

set_option maxHeartbeats 2000000 in
set_option maxRecDepth 100000 in
theorem puts_law (v tv : Value) (bs ts : List UInt8) (x : Nat) (F G : Nat → Prop) (w : World) (hb : Rd w F v (bys bs)) (ht : Rd w G tv (bys ts)) (hx : x < 18446744073709551616) :
    Calls Try.prog 3 #[v, tv, .int .u64 (x : Int)] w fun e w' => e = .returned (.bool true) ∧ Below w.heap.size w w' := by
  obtain ⟨A, c, rfl⟩ := hb.shape
  obtain ⟨B, d, rfl⟩ := ht.shape
  by_cases hl : 2000 < bs.length ∨ 2000 < ts.length
  · have hl2 : bs.length ≤ 2000 → 2000 < ts.length := by omega
    by_cases hlen : 2000 < bs.length
    · have hd : decide ((2000 : Int) < (bs.length : Int)) = true := decide_eq_true (by omega)
      clear hl hl2
      go_enter Try.func3, Try.ntmps3
      go_wp2_with (fail)
      refine (wakes_any _).mono ?_
      rintro e w1 ⟨rfl, hB1⟩
      go_wp2
      go_ret
      exact ⟨rfl, hB1⟩
    · have hd : decide ((2000 : Int) < (bs.length : Int)) = false := decide_eq_false (by omega)
      have hl3 : 2000 < ts.length := by omega
      clear hl hl2
      go_enter Try.func3, Try.ntmps3
      go_wp2_with (fail)
      refine (wakes_any _).mono ?_
      rintro e w1 ⟨rfl, hB1⟩
      go_wp2
      go_ret
      exact ⟨rfl, hB1⟩
  · have hlb : bs.length ≤ 2000 := by omega
    have hlt : ts.length ≤ 2000 := by omega
    have hd : decide ((2000 : Int) < (bs.length : Int)) = false := decide_eq_false (by omega)
    have h0 := lit0
    have hpx := psz_bd x
    have hpf := psz_bd (foldN (wrap64 (x : Int)))
    have hpt := psz_bd ts.length
    have hwf := wrap_fold x
    have hff := foldN_lt _ hwf.1 hwf.2
    have hlen1 : (packed x).length = psz x := length_packed x
    have hlen2 : (packed (foldN (wrap64 (x : Int)))).length = psz (foldN (wrap64 (x : Int))) := length_packed _
    have hlen3 : (packed ts.length ++ ts).length = psz ts.length + ts.length := by rw [List.length_append, length_packed]
    have Hl1 := hid hlen1
    have Hl2 := hid hlen2
    have Hl3 := hid hlen3
    clear hl hlen1 hlen2 hlen3
    go_enter Try.func3, Try.ntmps3
    go_wp2_with (fail)
    refine (wakes_any _).mono ?_
    rintro e w1 ⟨rfl, hB1⟩
    have hb1 := hb.below hB1
    have hal : Below w1.heap.size w1 (w1.alloc (.cells #[] 5)) := (Below.refl _ _).alloc (Nat.le_refl _) _
    go_wp2_with (at_builtin; refine wp_app _ _ slB rfl rfl rfl (lit0_own w1 w1.heap.size (Nat.le_refl _)) rfl (hb1.below hal).src (oneCell_bvs bs) (by simp only [maxLen]; omega) (by omega) (by simp) ?_)
    intro v2 w2 ho2 hG2 _
    have ho2 : w2.ownsRow w1.heap.size 5 1 v2 bs.length (bvs bs) := by simpa using ho2
    have hB2 : Below w1.heap.size w1 w2 := hal.grown hG2 (by simp) (fun k hk => by simp [Value.ownBlock] at hk; omega)
    have hB2' := hB1.trans (hB2.mono hB1.size)
    have hown := Rd.of_own ho2
    obtain ⟨A2, c2, rfl⟩ := own_shape ho2
    have hal2 : Below w2.heap.size w2 (w2.alloc (.cells #[] 5)) := (Below.refl _ _).alloc (Nat.le_refl _) _
    go_wp2_with (at_builtin; refine wp_app _ _ slB rfl rfl rfl (lit0_own w2 w2.heap.size (Nat.le_refl _)) rfl ((ht.below hB2').below hal2).src (oneCell_bvs ts) (by simp only [maxLen]; omega) (by omega) (by simp) ?_)
    intro v3 w3 ho3 hG3 _
    have ho3 : w3.ownsRow w2.heap.size 5 1 v3 ts.length (bvs ts) := by simpa using ho3
    have hB3 : Below w2.heap.size w2 w3 := hal2.grown hG3 (by simp) (fun k hk => by simp [Value.ownBlock] at hk; omega)
    have hB3' := hB2'.trans (hB3.mono hB2'.size)
    have hown := hown.below hB3
    have htext := Rd.of_own ho3
    obtain ⟨A3, c3, rfl⟩ := own_shape ho3
    clear h0
    go_wp2_with (fail)
    refine (putp_any _ bs x _ _ hown hx (by omega)).mono ?_
    rintro e w4 ⟨v4, rfl, ho4, hB4⟩
    have hB4' := hB3'.trans (hB4.mono hB3'.size)
    have hown := hown.below hB4
    have htext := htext.below hB4
    have h4 := Rd.of_own ho4
    rw [List.length_append, Hl1.out] at ho4
    obtain ⟨A4, c4, rfl⟩ := own_shape ho4
    go_wp2_with (fail)
    refine (putf_any _ bs _ _ _ hown hwf.1 hwf.2 (by omega)).mono ?_
    rintro e w5 ⟨v5, rfl, ho5, hB5⟩
    have hB5' := hB4'.trans (hB5.mono hB4'.size)
    have hown := hown.below hB5
    have htext := htext.below hB5
    have h4 := h4.below hB5
    have h5 := Rd.of_own ho5
    rw [List.length_append, Hl2.out] at ho5
    obtain ⟨A5, c5, rfl⟩ := own_shape ho5
    go_wp2_with (fail)
    refine (putt_any _ _ bs ts _ _ _ hown htext (by omega) (by omega)).mono ?_
    rintro e w6 ⟨v6, rfl, ho6, hB6⟩
    have hB6' := hB5'.trans (hB6.mono hB5'.size)
    have hown := hown.below hB6
    have htext := htext.below hB6
    have h4 := h4.below hB6
    have h5 := h5.below hB6
    have h6 := Rd.of_own ho6
    rw [List.length_append, Hl3.out] at ho6
    obtain ⟨A6, c6, rfl⟩ := own_shape ho6
    go_wp2_with (fail)
    refine (refp_any _ _ hx).mono ?_
    rintro e w7 ⟨v7, rfl, ho7, hB7⟩
    have hB7' := hB6'.trans (hB7.mono hB6'.size)
    go_wp2_with (fail)
    refine (join_any _ v7 bs (packed x) _ _ _ (hb.below hB7') (Rd.of_own ho7) (by omega) (by rw [Hl1.out]; omega)).mono ?_
    rintro e w8 ⟨v8, rfl, ho8, hB8⟩
    have hB8' := hB7'.trans (hB8.mono hB7'.size)
    have h4 := (h4.below hB7).below hB8
    go_wp2_with (fail)
    refine (same_b _ v8 _ _ _ _ _ h4 (Rd.of_own ho8)).mono ?_
    rintro e w9 ⟨rfl, hQ1⟩
    rw [decide_eq_true rfl]
    have hB9' := hB8'.trans (hQ1.mono hB8'.size)
    have h4 := h4.below hQ1
    have h5 := ((h5.below hB7).below hB8).below hQ1
    have h6 := ((h6.below hB7).below hB8).below hQ1
    have hown := ((hown.below hB7).below hB8).below hQ1
    have htext := ((htext.below hB7).below hB8).below hQ1
    go_wp2_with (fail)
    refine (ref_fold_any _ _ hwf.1 hwf.2).mono ?_
    rintro e w10 ⟨rfl, rfl⟩
    go_wp2_with (fail)
    refine (refp_any _ _ hff).mono ?_
    rintro e w11 ⟨v11, rfl, ho11, hB11⟩
    have hB11' := hB9'.trans (hB11.mono hB9'.size)
    go_wp2_with (fail)
    refine (join_any _ v11 bs _ _ _ _ (hb.below hB11') (Rd.of_own ho11) (by omega) (by rw [Hl2.out]; omega)).mono ?_
    rintro e w12 ⟨v12, rfl, ho12, hB12⟩
    have hB12' := hB11'.trans (hB12.mono hB11'.size)
    have h5 := (h5.below hB11).below hB12
    go_wp2_with (fail)
    refine (same_b _ v12 _ _ _ _ _ h5 (Rd.of_own ho12)).mono ?_
    rintro e w13 ⟨rfl, hQ2⟩
    rw [decide_eq_true rfl]
    have hB13' := hB12'.trans (hQ2.mono hB12'.size)
    have h4 := ((h4.below hB11).below hB12).below hQ2
    have h5 := h5.below hQ2
    have h6 := ((h6.below hB11).below hB12).below hQ2
    have hown := ((hown.below hB11).below hB12).below hQ2
    have htext := ((htext.below hB11).below hB12).below hQ2
    go_wp2_with (fail)
    refine (reft_any _ ts _ _ (ht.below hB13') (by omega)).mono ?_
    rintro e w14 ⟨v14, rfl, ho14, hB14⟩
    have hB14' := hB13'.trans (hB14.mono hB13'.size)
    go_wp2_with (fail)
    refine (join_any _ v14 bs _ _ _ _ (hb.below hB14') (Rd.of_own ho14) (by omega) (by rw [Hl3.out]; omega)).mono ?_
    rintro e w15 ⟨v15, rfl, ho15, hB15⟩
    have hB15' := hB14'.trans (hB15.mono hB14'.size)
    have h6 := (h6.below hB14).below hB15
    go_wp2_with (fail)
    refine (same_b _ v15 _ _ _ _ _ h6 (Rd.of_own ho15)).mono ?_
    rintro e w16 ⟨rfl, hQ3⟩
    rw [decide_eq_true rfl]
    have hB16' := hB15'.trans (hQ3.mono hB15'.size)
    have h4 := ((h4.below hB14).below hB15).below hQ3
    have h5 := ((h5.below hB14).below hB15).below hQ3
    have h6 := h6.below hQ3
    have hown := ((hown.below hB14).below hB15).below hQ3
    have htext := ((htext.below hB14).below hB15).below hQ3
    go_wp2_with (fail)
    refine (same_b _ _ _ _ _ _ _ hown (hb.below hB16')).mono ?_
    rintro e w17 ⟨rfl, hQ4⟩
    have hB17' := hB16'.trans (hQ4.mono hB16'.size)
    rw [decide_eq_true rfl]
    go_wp2_with (fail)
    refine (same_b _ _ _ _ _ _ _ (htext.below hQ4) (ht.below hB17')).mono ?_
    rintro e w18 ⟨rfl, hQ5⟩
    rw [decide_eq_true rfl]
    have h4 := (h4.below hQ4).below hQ5
    have h5 := (h5.below hQ4).below hQ5
    have h6 := (h6.below hQ4).below hQ5
    have hB18 := hB17'.trans (hQ5.mono hB17'.size)
    obtain ⟨X4, n4, d4, hs4, hk4⟩ := h4.cut_l slB ((bs.length : Nat) : Int) (by omega) (by simp; omega)
    rw [Int.toNat_natCast, List.drop_left] at hk4
    go_wp2_with (fail)
    refine (new_any _ _ _ _ hk4 (by rw [Hl1.out]; omega)).mono ?_
    rintro e w19 ⟨p1, rfl, hp1, hr1, hB19⟩
    have hpk1 := packed_any p1 _ _ _ _ hr1
    rw [List.drop_zero, readPk_packed' x hx] at hpk1
    have Hpk1 := hid hpk1
    clear hpk1
    go_wp2_with (fail)
    refine Hpk1.out.mono ?_
    rintro e w20 ⟨rfl, _, hC20⟩
    have hB20 : Below _ _ w20 := Ch.below_of hB19 hC20 (fun k hk => by have : k = p1 := hk; omega) hB19.size
    have hB20' := hB18.trans (hB20.mono hB18.size)
    have h5 := h5.below hB20
    have h6 := h6.below hB20
    simp only [e1]
    obtain ⟨X5, n5, d5, hs5, hk5⟩ := h5.cut_l slB ((bs.length : Nat) : Int) (by omega) (by simp; omega)
    rw [Int.toNat_natCast, List.drop_left] at hk5
    go_wp2_with (fail)
    refine (new_any _ _ _ _ hk5 (by rw [Hl2.out]; omega)).mono ?_
    rintro e w21 ⟨p2, rfl, hp2, hr2, hB21⟩
    have hpk2 := folded_any p2 _ _ _ _ hr2
    rw [List.drop_zero, readPk_packed' _ hff] at hpk2
    have Hpk2 := hid hpk2
    clear hpk2
    go_wp2_with (fail)
    refine Hpk2.out.mono ?_
    rintro e w22 ⟨rfl, _, hC22⟩
    have hB22 : Below _ _ w22 := Ch.below_of hB21 hC22 (fun k hk => by have : k = p2 := hk; omega) hB21.size
    have hB22' := hB20'.trans (hB22.mono hB20'.size)
    have h6 := h6.below hB22
    simp only [e2, unfoldZ_foldN]
    obtain ⟨X6, n6, d6, hs6, hk6⟩ := h6.cut_l slB ((bs.length : Nat) : Int) (by omega) (by simp; omega)
    rw [Int.toNat_natCast, List.drop_left] at hk6
    go_wp2_with (fail)
    refine (new_any _ _ _ _ hk6 (by rw [Hl3.out]; omega)).mono ?_
    rintro e w23 ⟨p3, rfl, hp3, hr3, hB23⟩
    have hpk3 := text_any p3 _ _ _ (ts.length : Int) _ hr3 (by omega) (by omega) (by rw [Hl3.out]; omega)
    rw [List.drop_zero, textR_text ts (by omega)] at hpk3
    have Hpk3 := hid hpk3
    clear hpk3
    go_wp2_with (fail)
    refine Hpk3.out.mono ?_
    rintro e w24 ⟨v24, rfl, h24, _, hC24⟩
    have hB24 : Below _ _ w24 := Ch.below_of hB23 hC24 (fun k hk => by have : k = p3 := hk; omega) hB23.size
    have hB24' := hB22'.trans (hB24.mono hB22'.size)
    have e24 : ((packed ts.length ++ ts).drop (psz ts.length)).take ts.length = ts := by rw [← length_packed, List.drop_left, List.take_length]
    rw [List.drop_zero, e24] at h24
    go_wp2_with (fail)
    refine (same_b _ _ _ _ _ _ _ h24 (ht.below hB24')).mono ?_
    rintro e w25 ⟨rfl, hQ25⟩
    rw [decide_eq_true rfl]
    go_wp2
    go_ret
    exact ⟨rfl, hB24'.trans (hQ25.mono hB24'.size)⟩
end Go.Proofs.Ytbbdfffgmppheaa
