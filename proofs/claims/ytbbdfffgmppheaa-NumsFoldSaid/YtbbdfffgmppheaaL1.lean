/- L1: the laws of layer 1: what each law's Go function comes to. -/
import Derived.Test.YtbbdfffgmppheaaN6
import Derived.Test.YtbbdfffgmppheaaN7
namespace Go.Proofs.Ytbbdfffgmppheaa
open Go.RowKit Go.V

theorem Rd.two (w : World) (a b : UInt8) (F : Nat → Prop) (hF : F w.heap.size) : Rd (w.alloc (.cells #[byteV a, byteV b] 5)) F (.slice (some ⟨w.heap.size, 0, none⟩) 2 2) (bys [a, b]) := by
  unfold bys Rd
  refine ⟨_, 2, rfl, by simp, by simp [maxLen], fun h => by simp at h, fun _ => ⟨_, _, rfl, hF, RdC.of_bytes fun j u hu => ?_⟩⟩
  have hh : (w.alloc (.cells #[byteV a, byteV b] 5)).heap[w.heap.size]? = some (.cells #[byteV a, byteV b] 5 (0, 0)) := heap_alloc_new w _
  simp only [World.cell?, hh, Nat.zero_add]
  simp [bvs] at hu ⊢
  exact hu
theorem Rd.nil (w : World) (F : Nat → Prop) : Rd w F (.slice none 0 0) (bys []) := by
  unfold bys Rd
  exact ⟨none, 0, rfl, Nat.le_refl _, by simp [maxLen], fun _ => rfl, fun h => absurd rfl h⟩

set_option maxHeartbeats 1000000 in
theorem wakes_any (w : World) :
    Calls Try.prog 9 #[] w fun e w' => e = .returned (.bool true) ∧ Below w.heap.size w w' := by
  have hb2 : ∀ W : World, (Instr.buildSlice 22 2 #[(0, .int .u8 172), (1, .int .u8 2)]).run Try.prog W = .ok (.slice (some ⟨W.heap.size, 0, none⟩) 2 2) (W.alloc (.cells #[.int .u8 172, .int .u8 2] 5)) := fun W => by kernel_rfl
  go_enter Try.func9, Try.ntmps9
  go_wp2_with (fail)
  refine (new_any _ [172, 2] (fun b => b = w.heap.size) _ (Rd.two w 172 2 _ rfl) (by simp)).mono ?_
  rintro e w1 ⟨p, rfl, hp, hr1, hB1⟩
  have hpw : w.heap.size ≤ p := by simp at hp; omega
  have hB1' : Below w.heap.size w w1 := ((Below.refl _ _).alloc (Nat.le_refl _) _).trans (hB1.mono (by simp))
  have hpk := packed_any p _ _ _ _ hr1
  have e300 : readPk (List.drop 0 [172, 2]) = .ok (300, 2) := by rfl
  rw [e300] at hpk
  have Hpk := hid hpk
  clear hpk e300
  go_wp2_with (fail)
  refine Hpk.out.mono ?_
  rintro e w2 ⟨rfl, hr2, hC2⟩
  have hB2 : Below w.heap.size w w2 := Ch.below_of hB1' hC2 (fun k hk => by have : k = p := hk; omega) hB1'.size
  simp only [e1]
  go_wp2_with (fail)
  refine (putp_any (.slice none 0 0) [] 300 nob _ (Rd.nil _ _) (by omega) (by simp)).mono ?_
  rintro e w3 ⟨v3, rfl, ho3, hB3⟩
  have hr3 := hr2.belowR hB3
  have hB3' : Below w.heap.size w w3 := hB2.trans (hB3.mono hB2.size)
  go_wp2_with (fail)
  have hal : Below w3.heap.size w3 (w3.alloc (.cells #[byteV 172, byteV 2] 5)) := (Below.refl _ _).alloc (Nat.le_refl _) _
  refine (same_any _ _ _ _ _ _ _ ((Rd.of_own ho3).below hal) (Rd.two w3 172 2 (fun b => b = w3.heap.size) rfl)).mono ?_
  rintro e w4 ⟨rfl, n, rfl⟩
  have hr4 := (hr3.belowR hal).drewN n
  have hB4 : Below w.heap.size w ((w3.alloc (.cells #[byteV 172, byteV 2] 5)).drewN n) := below_drewN (hB3'.trans (hal.mono hB3'.size)) n
  have ht : decide (([] : List UInt8) ++ packed 300 = [172, 2]) = true := by decide
  go_wp2_with (fail)
  refine (fold_any (-3) _ (by omega) (by omega)).mono ?_
  rintro e w5 ⟨rfl, rfl⟩
  have h5 : (foldN (-3) : Int) = 5 := by decide
  rw [h5]
  go_wp2_with (fail)
  refine (done_any p _ _ _ _ hr4).mono ?_
  rintro e w6 ⟨rfl, m, rfl⟩
  have hB6 := below_drewN hB4 m
  go_wp2
  go_ret
  rw [World.drewN_drewN] at hB6
  exact ⟨rfl, hB6⟩

theorem peek_nil (w : World) : Calls Try.prog 36 #[.pointer none] w fun e w' => e = .returned (.tuple #[.int .u64 0, .int .i64 0, .int .i64 16]) ∧ w = w' := by
  go_enter Try.func36, Try.ntmps36
  go_wp2
  go_ret3
  exact ⟨rfl, rfl⟩
theorem pcount_nil (n : Int) (w : World) : Calls Try.prog 37 #[.pointer none, .int .i64 n] w fun e w' => e = .returned (.tuple #[.int .i64 0, .int .i64 0, .int .i64 16]) ∧ w = w' := by
  go_enter Try.func37, Try.ntmps37
  go_wp2_with (fail)
  refine (peek_nil _).mono ?_
  rintro e w1 ⟨rfl, rfl⟩
  go_wp2
  go_ret3
  exact ⟨rfl, rfl⟩

set_option maxHeartbeats 1000000 in
set_option maxRecDepth 100000 in
theorem nil_law (n : Int) (w : World) :
    Calls Try.prog 7 #[.int .i64 n] w fun e w' => e = .returned (.bool true) ∧ Below w.heap.size w w' := by
  go_enter Try.func7, Try.ntmps7
  go_wp2_with (first | (go_at_call 9; refine (wakes_any _).mono ?_; rintro e w1 ⟨rfl, hB1⟩) | (go_at_call 36; refine (peek_nil _).mono ?_; rintro e w1 ⟨rfl, rfl⟩) | (go_at_call 37; refine (pcount_nil _ _).mono ?_; rintro e w1 ⟨rfl, rfl⟩) | go_in)
  go_ret
  exact ⟨rfl, hB1⟩

theorem fold_law (x : Int) (y : Nat) (w : World) (h1 : -9223372036854775808 ≤ x) (h2 : x ≤ 9223372036854775807) (hy : y < 18446744073709551616) :
    Calls Try.prog 5 #[.int .i64 x, .int .u64 (y : Int)] w fun e w' => e = .returned (.bool true) ∧ Below w.heap.size w w' := by
  have hf := foldN_lt x h1 h2
  have hu := unfoldZ_bd y hy
  have e1 := hid (unfoldZ_foldN x)
  have e2 := hid (foldN_unfoldZ y)
  go_enter Try.func5, Try.ntmps5
  go_wp2_with (fail)
  refine (wakes_any _).mono ?_
  rintro e w1 ⟨rfl, hB1⟩
  go_wp2_with (fail)
  refine (fold_any x _ h1 h2).mono ?_
  rintro e w2 ⟨rfl, rfl⟩
  go_wp2_with (fail)
  refine (ref_fold_any x _ h1 h2).mono ?_
  rintro e w2 ⟨rfl, rfl⟩
  go_wp2_with (fail)
  refine (unfold_any y _ hy).mono ?_
  rintro e w2 ⟨rfl, rfl⟩
  go_wp2_with (fail)
  refine (ref_unfold_any y _ hy).mono ?_
  rintro e w2 ⟨rfl, rfl⟩
  go_wp2_with (fail)
  refine (fold_any x _ h1 h2).mono ?_
  rintro e w2 ⟨rfl, rfl⟩
  go_wp2_with (fail)
  refine (unfold_any _ _ hf).mono ?_
  rintro e w2 ⟨rfl, rfl⟩
  rw [e1.out]
  go_wp2_with (fail)
  refine (unfold_any y _ hy).mono ?_
  rintro e w2 ⟨rfl, rfl⟩
  go_wp2_with (fail)
  refine (fold_any _ _ hu.1 hu.2).mono ?_
  rintro e w2 ⟨rfl, rfl⟩
  rw [e2.out]
  go_wp2
  go_ret
  exact ⟨rfl, hB1⟩

set_option maxHeartbeats 1000000 in
set_option maxRecDepth 100000 in
theorem length_law (x y : Nat) (w : World) (hx : x < 18446744073709551616) (hy : y < 18446744073709551616) :
    Calls Try.prog 8 #[.int .u64 (x : Int), .int .u64 (y : Int)] w fun e w' => e = .returned (.bool true) ∧ Below w.heap.size w w' := by
  have hpx := psz_bd x
  have hpy := psz_bd y
  have hmono : y < x ∨ psz x ≤ psz y := by
    rcases Nat.lt_or_ge y x with h | h
    · exact .inl h
    · exact .inr (psF_mono 9 x y h)
  go_enter Try.func8, Try.ntmps8
  go_wp2_with (fail)
  refine (wakes_any _).mono ?_
  rintro e w1 ⟨rfl, hB1⟩
  go_wp2_with (fail)
  refine (putp_any (.slice none 0 0) [] x nob _ (Rd.nil _ _) hx (by simp)).mono ?_
  rintro e w2 ⟨v2, rfl, ho2, hB2⟩
  have hB2' := hB1.trans (hB2.mono hB1.size)
  rw [List.nil_append, length_packed] at ho2
  obtain ⟨A2, c2, rfl⟩ := own_shape ho2
  go_wp2_with (fail)
  refine (putp_any (.slice none 0 0) [] y nob _ (Rd.nil _ _) hy (by simp)).mono ?_
  rintro e w3 ⟨v3, rfl, ho3, hB3⟩
  have hB3' := hB2'.trans (hB3.mono hB2'.size)
  rw [List.nil_append, length_packed] at ho3
  obtain ⟨A3, c3, rfl⟩ := own_shape ho3
  go_wp2
  go_loop [7, 8] (fun nv zv => ∃ (z n k : Nat), zv = .int .u64 (z : Int) ∧ nv = .int .i64 (n : Int) ∧ k ≤ 9 ∧ z < 128 ^ k * 2 ∧ n + psF k z = psz x + 1 ∧ 1 ≤ n) (fun _ zv => (intOf zv).toNat)
  case atStart => exact ⟨x, 1, 9, rfl, rfl, by omega, by omega, by unfold psz; omega, by omega⟩
  case round =>
    obtain ⟨z, n, k, rfl, rfl, hk, hz, hn, hn1⟩ := hrel
    have hpz := psF_pos k z
    have hz64 : z < 18446744073709551616 := by
      have := Nat.pow_le_pow_right (show 0 < 128 by omega) hk
      omega
    have Hn := hid hn
    have hn11 : n ≤ 10 := by omega
    clear hn
    by_cases hc : 128 ≤ z
    · obtain ⟨k, rfl⟩ : ∃ k', k = k' + 1 := ⟨k - 1, by rcases k with _ | k; exact absurd hz (by omega); rfl⟩
      go_wp2
      go_round
      case rel =>
        refine ⟨z / 128, n + 1, k, by go_num, by go_num, by omega, by rw [Nat.pow_succ] at hz; omega, ?_, by omega⟩
        have h1 := Hn.out
        unfold psF at h1
        rw [if_neg (by omega)] at h1
        omega
      case measure => simp [intOf]; omega
    · have h1 : psF k z = 1 := by cases k <;> simp [psF]; omega
      have hne := Hn.out
      have he : ((psz x : Int) == (n : Int)) = true := beq_iff_eq.2 (by omega)
      clear h1 hne
      rcases hmono with h | h
      · go_wp2
        go_ret
        exact ⟨ret_b (decide_eq_true (by omega)), hB3'⟩
      · by_cases h' : y < x
        · go_wp2
          go_ret
          exact ⟨ret_b (decide_eq_true (by omega)), hB3'⟩
        · go_wp2
          go_ret
          exact ⟨ret_b (decide_eq_true (by omega)), hB3'⟩

/-- 'append([]byte{}, b...)' -/
theorem lit0 : ∀ W : World, (Instr.buildSlice 22 0 #[]).run Try.prog W = .ok (.slice (some ⟨W.heap.size, 0, none⟩) 0 0) (W.alloc (.cells #[] 5)) := fun W => by kernel_rfl
theorem lit0_own (w : World) (base : Nat) (h : base ≤ w.heap.size) : (w.alloc (.cells #[] 5)).ownsRow base 5 1 (.slice (some ⟨w.heap.size, 0, none⟩) 0 0) 0 [] :=
  World.ownsRow_made w #[] 0 h (by simp [maxLen]) rfl

set_option maxHeartbeats 2000000 in
set_option maxRecDepth 100000 in
theorem one_law (v : Value) (bs : List UInt8) (F : Nat → Prop) (w : World) (hb : Rd w F v (bys bs)) :
    Calls Try.prog 6 #[v] w fun e w' => e = .returned (.bool true) ∧ Below w.heap.size w w' := by
  obtain ⟨A, c, rfl⟩ := hb.shape
  by_cases hlen : 2000 < bs.length
  · go_enter Try.func6, Try.ntmps6
    go_wp2_with (fail)
    refine (wakes_any _).mono ?_
    rintro e w1 ⟨rfl, hB1⟩
    go_wp2
    go_ret
    exact ⟨rfl, hB1⟩
  · go_enter Try.func6, Try.ntmps6
    go_wp2_with (fail)
    refine (wakes_any _).mono ?_
    rintro e w1 ⟨rfl, hB1⟩
    have hb1 := hb.below hB1
    go_wp2_with (fail)
    refine (new_any _ bs F _ hb1 (by omega)).mono ?_
    rintro e w2 ⟨p, rfl, hp, hr2, hB2⟩
    have hB2' : Below w.heap.size w w2 := hB1.trans (hB2.mono hB1.size)
    have hb2 := hb1.below hB2
    have hpw : w.heap.size ≤ p := Nat.le_trans hB1.size hp
    have hpk := packed_any p _ _ _ _ hr2
    rw [List.drop_zero] at hpk
    cases hr : readPk bs with
    | error er =>
      rw [hr] at hpk
      have He := rdF_err _ _ _ _ hr
      have hne : ((er : Int) != 0) = true := by rw [bne_iff_ne]; omega
      have Hpk := hid hpk
      clear hpk hr
      go_wp2_with (fail)
      refine Hpk.out.mono ?_
      rintro e w3 ⟨rfl, hr3, hC3⟩
      have hB3 : Below w.heap.size w w3 := Ch.below_of hB2' hC3 (fun k hk => by have : k = p := hk; omega) hB2'.size
      simp only [e1]
      go_wp2_with (fail)
      refine (at_any p _ _ _ _ hr3).mono ?_
      rintro e w4 ⟨rfl, rfl⟩
      go_wp2
      go_ret
      exact ⟨rfl, hB3⟩
    | ok r =>
      obtain ⟨x, m⟩ := r
      rw [hr] at hpk
      obtain ⟨hm1, hx, hm2⟩ := packed_readPk hr
      have Hm1 : Hid (decide (packed x = bs.take m) = true) := decide_eq_true hm1
      have Hpk := hid hpk
      clear hpk hr hm1
      go_wp2_with (fail)
      refine Hpk.out.mono ?_
      rintro e w3 ⟨rfl, hr3, hC3⟩
      have hB3 : Below w.heap.size w w3 := Ch.below_of hB2' hC3 (fun k hk => by have : k = p := hk; omega) hB2'.size
      have hb3 := hb.below hB3
      simp only [e1]
      go_wp2_with (fail)
      refine (putp_any (.slice none 0 0) [] x nob _ (Rd.nil _ _) hx (by simp)).mono ?_
      rintro e w4 ⟨v4, rfl, ho4, hB4⟩
      have hB4' := hB3.trans (hB4.mono hB3.size)
      have hr4 := hr3.belowR hB4
      have hb4 := hb.below hB4'
      obtain ⟨A', n', c', hsl, hcut⟩ := hb4.cut_h slB ((m : Nat) : Int) (by omega) (by omega)
      rw [List.nil_append] at ho4
      go_wp2_with (fail)
      refine (at_any p _ _ _ _ hr4).mono ?_
      rintro e w5 ⟨rfl, rfl⟩
      rw [show ((0 + lenP (.ok (x, m)) : Nat) : Int) = (m : Int) from by simp [lenP]]
      go_wp2_with (fail)
      refine (same_any _ _ _ _ _ _ _ (Rd.of_own ho4) hcut).mono ?_
      rintro e w5 ⟨rfl, q, rfl⟩
      go_wp2
      go_ret
      exact ⟨ret_b Hm1.out, below_drewN hB4' q⟩

end Go.Proofs.Ytbbdfffgmppheaa
