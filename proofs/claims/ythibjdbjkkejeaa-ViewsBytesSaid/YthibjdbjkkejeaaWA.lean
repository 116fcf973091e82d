/- WA: layer 6: the law ViewsBytes. -/
import Derived.Test.YthibjdbjkkejeaaW9
namespace Go.Proofs.Ythibjdbjkkejeaa
open Go.RowKit Go.V
theorem fix2_eq (x : Nat) : fixR 2 x = [UInt8.ofNat (x / 256 % 256), UInt8.ofNat (x % 256)] := by
  unfold fixR
  rw [if_pos (by unfold okN; omega)]
  simp [fixB, List.range_succ]
theorem fix2_of (a b : UInt8) : fixR 2 (256 * a.toNat + b.toNat) = [a, b] := by
  have ha := a.toNat_lt
  have hb := b.toNat_lt
  rw [fix2_eq, show (256 * a.toNat + b.toNat) / 256 % 256 = a.toNat from by omega, show (256 * a.toNat + b.toNat) % 256 = b.toNat from by omega, UInt8.ofNat_toNat, UInt8.ofNat_toNat]
theorem put_got (b : List UInt8) (h : b.length = 4) (hr : rgt (nb b 0 2 : Nat) (nb b 2 2) = true) : putV (nb b 0 2 : Nat) (nb b 2 2) = b := by
  unfold putV
  rw [if_pos hr, Int.toNat_natCast]
  match b, h with
  | [a, c, d, e], _ =>
    have h1 : nb [a, c, d, e] 0 2 = 256 * a.toNat + c.toNat := by simp [nb]
    have h2 : nb [a, c, d, e] 2 2 = 256 * d.toNat + e.toNat := by simp [nb]
    rw [h1, h2, fix2_of, fix2_of]
    rfl
theorem got_put {n : Int} {M : Nat} (hM : M < 65536) (hr : rgt n M = true) : gotV (putV n M) = .tuple #[vw n M, .int .i64 0] := by
  have hz := rgt_sz hr
  obtain ⟨q, rfl⟩ := Int.eq_ofNat_of_zero_le hz.1
  have hp : putV (q : Int) M = [UInt8.ofNat (q / 256 % 256), UInt8.ofNat (q % 256), UInt8.ofNat (M / 256 % 256), UInt8.ofNat (M % 256)] := by
    unfold putV
    rw [if_pos hr, Int.toNat_natCast, fix2_eq, fix2_eq]
    rfl
  have h1 : nb (putV (q : Int) M) 0 2 = q := by
    rw [hp]; simp [nb]; omega
  have h2 : nb (putV (q : Int) M) 2 2 = M := by
    rw [hp]; simp [nb]; omega
  unfold gotV
  rw [h1, h2, if_pos ⟨by rw [hp]; rfl, hr⟩]
theorem got_form (b : List UInt8) : ∃ x y er : Nat, gotV b = .tuple #[.agg #[.int .i64 (x : Int), .int .u16 (y : Int)], .int .i64 (er : Int)] ∧ y < 65536 ∧ (er = 0 → putV (x : Int) y = b) ∧ er ≤ 2 := by
  have hn2 := nb_lt b 2 2
  unfold gotV
  split
  · rename_i h
    exact ⟨nb b 0 2, nb b 2 2, 0, rfl, by omega, fun _ => put_got b h.1 h.2, by omega⟩
  · split
    · exact ⟨0, 0, 1, rfl, by omega, fun h => by omega, by omega⟩
    · exact ⟨0, 0, 2, rfl, by omega, fun h => by omega, by omega⟩
theorem put_len (n : Int) (M : Nat) : (putV n M).length ≤ 4 := by
  unfold putV
  split
  · rw [List.length_append, len_fix2, len_fix2]; omega
  · simp
set_option maxRecDepth 100000 in
set_option maxHeartbeats 2000000 in
theorem viewsBytes_law (n : Int) (M : Nat) (v : Value) (b : List UInt8) (F : Nat → Prop) (w : World) (h : M < 65536) (hb : Rd w F v (bys b)) :
    Calls Try.prog 5 #[vw n M, v] w fun e w' => e = .returned (.bool true) ∧ Below w.heap.size w w' := by
  obtain ⟨A, c, rfl⟩ := hb.shape
  have hput := (put_any n M · h)
  have hrput := (rput_any n M · h)
  have hrrt := (rright_any n M · h)
  have hgp : rgt n M = true → gotV (putV n M) = .tuple #[vw n M, .int .i64 0] := got_put h
  have hpl := put_len n M
  obtain ⟨P, hP⟩ : ∃ P, P = putV n M := ⟨_, rfl⟩
  rw [← hP] at hput hrput hgp hpl
  clear hP
  obtain ⟨x, y, er, hgot, hy, hpb, her⟩ := got_form b
  have hputx := (put_any (x : Int) y · hy)
  obtain ⟨Z, hZ⟩ : ∃ Z, Z = putV (x : Int) y := ⟨_, rfl⟩
  rw [← hZ] at hputx hpb
  clear hZ
  have Hpb := hid hpb
  clear hpb
  unfold vw at hput hrput hrrt hgp hputx ⊢
  have hvb := Blk.new' w 24 [.int .i64 n, .int .u16 (M : Int)]
  have hB : Below w.heap.size w (w.alloc (.cells #[.int .i64 n, .int .u16 (M : Int)] 24)) := (Below.refl _ _).alloc (Nat.le_refl _) _
  go_enter Try.func5, Try.ntmps5
  go_wp2_with (fail)
  obtain ⟨w0, hw0⟩ : ∃ w0, w0 = w.alloc (.cells #[.int .i64 n, .int .u16 (M : Int)] 24) := ⟨_, rfl⟩
  rw [← hw0] at hvb hB ⊢
  clear hw0
  obtain ⟨g, hg⟩ : ∃ g, g = w.heap.size := ⟨_, rfl⟩
  rw [← hg] at hvb ⊢
  clear hg
  refine (wakes6_any _).mono ?_
  rintro e w1 ⟨rfl, hB1⟩
  have hv1 := hvb.below hB1
  have hB1' := hB.trans (hB1.mono hB.size)
  clear hvb
  by_cases hl : 100 < b.length
  · have hI : (100 : Int) < (b.length : Int) := by omega
    go_wp2
    go_ret
    exact ⟨rfl, hB1'⟩
  have hI : ¬ (100 : Int) < (b.length : Int) := by omega
  have c0 := hv1.cellAt 0 _ rfl
  have c1 := hv1.cellAt 1 _ rfl
  go_wp2_with (fail)
  refine (hput _).mono ?_
  rintro e w2 ⟨v2, rfl, ho2, hB2⟩
  obtain ⟨A2, c2, rfl⟩ := own_shape ho2
  have hp2 := Rd.of_own ho2
  have hv2 := hv1.below hB2
  have hB2' := hB1'.trans (hB2.mono hB1'.size)
  have hb2 := hb.below hB2'
  have hal : Below w2.heap.size w2 (w2.alloc (.cells #[] 5)) := (Below.refl _ _).alloc (Nat.le_refl _) _
  have h0 := lit0
  clear c0 c1 ho2 hv1
  go_wp2_with (at_builtin; refine wp_app _ _ slB rfl rfl rfl (lit0_own w2 w2.heap.size (Nat.le_refl _)) rfl (hb2.below hal).src (oneCell_bvs b) (by simp only [maxLen]; omega) (by omega) (by simp) ?_)
  intro v3 w3 ho3 hG3 _
  have ho3 : w3.ownsRow w2.heap.size 5 1 v3 b.length (bvs b) := by simpa using ho3
  have hB3 : Below w2.heap.size w2 w3 := hal.grown hG3 (by simp) (fun k hk => by simp [Value.ownBlock] at hk; omega)
  have hB3' := hB2'.trans (hB3.mono hB2'.size)
  have hv3 := hv2.below hB3
  have hp3 := hp2.below hB3
  clear h0 hv2 hp2
  go_wp2_with (fail)
  refine (get_any v3 b _ _ (Rd.of_own ho3) (by omega)).mono ?_
  rintro e w4 ⟨rfl, hB4⟩
  rw [hgot]
  have hB4' := hB3'.trans (hB4.mono hB3'.size)
  have hv4 := hv3.below hB4
  have hp4 := hp3.below hB4
  have hv5 := hv4.alloc (.cells #[.int .i64 (x : Int), .int .u16 (y : Int)] 24)
  have hal5 : Below w4.heap.size w4 (w4.alloc (.cells #[.int .i64 (x : Int), .int .u16 (y : Int)] 24)) := (Below.refl _ _).alloc (Nat.le_refl _) _
  have hp5 := hp4.below hal5
  have hx5 := Blk.new' w4 24 [.int .i64 (x : Int), .int .u16 (y : Int)]
  have hB5 := hB4'.trans (hal5.mono hB4'.size)
  have hb5 := hb.below hB5
  clear hal5
  go_wp2_with (fail)
  obtain ⟨w5, hw5⟩ : ∃ w5, w5 = w4.alloc (.cells #[.int .i64 (x : Int), .int .u16 (y : Int)] 24) := ⟨_, rfl⟩
  rw [← hw5] at hv5 hp5 hx5 hB5 hb5 ⊢
  obtain ⟨g6, hg6⟩ : ∃ b, b = w4.heap.size := ⟨_, rfl⟩
  rw [← hg6] at hx5 ⊢
  clear hw5 hg6 hv3 hv4 hp3 hp4
  refine (rget_any _ b _ _ hb5 (by omega)).mono ?_
  rintro e w6 ⟨rfl, hB6⟩
  rw [hgot]
  have hB6' := hB5.trans (hB6.mono hB5.size)
  have hal7 : Below w6.heap.size w6 (w6.alloc (.cells #[.int .i64 (x : Int), .int .u16 (y : Int)] 24)) := (Below.refl _ _).alloc (Nat.le_refl _) _
  have hB67 := hB6.trans (hal7.mono hB6.size)
  have hv7 := hv5.below hB67
  have hp7 := hp5.below hB67
  have hx7 := hx5.below hB67
  have hy7 := Blk.new' w6 24 [.int .i64 (x : Int), .int .u16 (y : Int)]
  have hB7 := hB6'.trans (hal7.mono hB6'.size)
  clear hal7 hv5 hp5 hx5
  go_wp2_with (with_reducible refine wp_at 32 rfl ?_)
  obtain ⟨w7, hw7⟩ : ∃ w7, w7 = w6.alloc (.cells #[.int .i64 (x : Int), .int .u16 (y : Int)] 24) := ⟨_, rfl⟩
  rw [← hw7] at hv7 hp7 hx7 hy7 hB7 ⊢
  obtain ⟨g8, hg8⟩ : ∃ b, b = w6.heap.size := ⟨_, rfl⟩
  rw [← hg8] at hy7 ⊢
  clear hw7 hg8 hB67
  have c0 := hv7.cellAt 0 _ rfl
  have c1 := hv7.cellAt 1 _ rfl
  refine wp_on ?_
  go_wp2_with (fail)
  refine (hrput _).mono ?_
  rintro e w8 ⟨v8, rfl, ho8, hB8⟩
  obtain ⟨A8, c8, rfl⟩ := own_shape ho8
  have hB8' := hB7.trans (hB8.mono hB7.size)
  have hv8 := hv7.below hB8
  have hp8 := hp7.below hB8
  have hx8 := hx7.below hB8
  have hy8 := hy7.below hB8
  clear c0 c1 hv7 hp7 hx7 hy7
  go_wp2_with (fail)
  refine (same_b _ _ P P _ _ _ hp8 (Rd.of_own ho8)).mono ?_
  rintro e w9 ⟨rfl, hB9⟩
  rw [decide_eq_true rfl]
  have hB9' := hB8'.trans (hB9.mono hB8'.size)
  have hv9 := hv8.below hB9
  have hp9 := hp8.below hB9
  have hx9 := hx8.below hB9
  have hy9 := hy8.below hB9
  have c0 := hv9.cellAt 0 _ rfl
  have c1 := hv9.cellAt 1 _ rfl
  have d0 := hx9.cellAt 0 _ rfl
  have d1 := hx9.cellAt 1 _ rfl
  have e0 := hy9.cellAt 0 _ rfl
  have e1 := hy9.cellAt 1 _ rfl
  clear hv8 hp8 hx8 hy8 ho8 hgot
  by_cases hz : er = 0
  · subst hz
    have hZb : Z = b := Hpb.out rfl
    have HZb := hid hZb
    clear hZb Hpb
    go_wp2_with (fail)
    refine (hputx _).mono ?_
    rintro e w10 ⟨v10, rfl, ho10, hB10⟩
    have hB10' := hB9'.trans (hB10.mono hB9'.size)
    have hv10 := hv9.below hB10
    have hp10 := hp9.below hB10
    clear c0 c1 d0 d1 e0 e1 hv9 hp9 hx9 hy9
    go_wp2_with (fail)
    refine (same_b _ _ Z b _ _ _ (Rd.of_own ho10) (hb.below hB10')).mono ?_
    rintro e w11 ⟨rfl, hB11⟩
    rw [decide_eq_true HZb.out]
    have hB11' := hB10'.trans (hB11.mono hB10'.size)
    have hv11 := hv10.below hB11
    have hp11 := hp10.below hB11
    clear hv10 hp10 ho10
    cases hr : rgt n M with
    | true =>
      have hgp := hgp hr
      have Hr := hid hr
      clear hr
      go_wp2_with (fail)
      refine (get_any _ P _ _ hp11 (by omega)).mono ?_
      rintro e w12 ⟨rfl, hB12⟩
      rw [hgp]
      have hB12' := hB11'.trans (hB12.mono hB11'.size)
      have hv12 := hv11.below hB12
      have hal13 : Below w12.heap.size w12 (w12.alloc (.cells #[.int .i64 n, .int .u16 (M : Int)] 24)) := (Below.refl _ _).alloc (Nat.le_refl _) _
      have hv13 := hv12.below hal13
      have hn13 := Blk.new' w12 24 [.int .i64 n, .int .u16 (M : Int)]
      have hB13 := hB12'.trans (hal13.mono hB12'.size)
      try clear c0 c1 d0 d1 e0 e1
      clear hgp hv11 hp11 hv12 hal13
      go_wp2_with (with_reducible refine wp_at 60 rfl ?_)
      obtain ⟨w13, hw13⟩ : ∃ w13, w13 = w12.alloc (.cells #[.int .i64 n, .int .u16 (M : Int)] 24) := ⟨_, rfl⟩
      rw [← hw13] at hv13 hn13 hB13 ⊢
      obtain ⟨g10, hg10⟩ : ∃ b, b = w12.heap.size := ⟨_, rfl⟩
      rw [← hg10] at hn13 ⊢
      clear hw13 hg10
      have c0 := hv13.cellAt 0 _ rfl
      have c1 := hv13.cellAt 1 _ rfl
      refine wp_on ?_
      go_wp2_with (fail)
      refine (hrrt _).mono ?_
      rintro e w14 ⟨rfl, hB14⟩
      rw [Hr.out]
      have hB14' := hB13.trans (hB14.mono hB13.size)
      have hv14 := hv13.below hB14
      have hn14 := hn13.below hB14
      clear c0 c1 hv13 hn13
      have c0 := hv14.cellAt 0 _ rfl
      have c1 := hv14.cellAt 1 _ rfl
      have d0 := hn14.cellAt 0 _ rfl
      have d1 := hn14.cellAt 1 _ rfl
      go_wp2
      go_ret
      exact ⟨rfl, hB14'⟩
    | false =>
      have Hr := hid hr
      clear hr hgp
      go_wp2_with (fail)
      refine (get_any _ P _ _ hp11 (by omega)).mono ?_
      rintro e w12 ⟨rfl, hB12⟩
      obtain ⟨x2, y2, er2, hgot2, _, _, _⟩ := got_form P
      rw [hgot2]
      have hB12' := hB11'.trans (hB12.mono hB11'.size)
      have hv12 := hv11.below hB12
      have hal13 : Below w12.heap.size w12 (w12.alloc (.cells #[.int .i64 (x2 : Int), .int .u16 (y2 : Int)] 24)) := (Below.refl _ _).alloc (Nat.le_refl _) _
      have hv13 := hv12.below hal13
      have hB13 := hB12'.trans (hal13.mono hB12'.size)
      try clear c0 c1 d0 d1 e0 e1
      clear hgot2 hv11 hp11 hv12 hal13
      go_wp2_with (with_reducible refine wp_at 60 rfl ?_)
      obtain ⟨w13, hw13⟩ : ∃ w13, w13 = w12.alloc (.cells #[.int .i64 (x2 : Int), .int .u16 (y2 : Int)] 24) := ⟨_, rfl⟩
      rw [← hw13] at hv13 hB13 ⊢
      clear hw13
      have c0 := hv13.cellAt 0 _ rfl
      have c1 := hv13.cellAt 1 _ rfl
      refine wp_on ?_
      go_wp2_with (fail)
      refine (hrrt _).mono ?_
      rintro e w14 ⟨rfl, hB14⟩
      rw [Hr.out]
      go_wp2
      go_ret
      exact ⟨rfl, hB13.trans (hB14.mono hB13.size)⟩
  · have hzI : ((er : Int) == 0) = false := by rw [beq_eq_false_iff_ne]; omega
    have hv11 := hv9
    have hp11 := hp9
    have hB11' := hB9'
    clear hz Hpb hv9 hp9
    cases hr : rgt n M with
    | true =>
      have hgp := hgp hr
      have Hr := hid hr
      clear hr
      go_wp2_with (fail)
      refine (get_any _ P _ _ hp11 (by omega)).mono ?_
      rintro e w12 ⟨rfl, hB12⟩
      rw [hgp]
      have hB12' := hB11'.trans (hB12.mono hB11'.size)
      have hv12 := hv11.below hB12
      have hal13 : Below w12.heap.size w12 (w12.alloc (.cells #[.int .i64 n, .int .u16 (M : Int)] 24)) := (Below.refl _ _).alloc (Nat.le_refl _) _
      have hv13 := hv12.below hal13
      have hn13 := Blk.new' w12 24 [.int .i64 n, .int .u16 (M : Int)]
      have hB13 := hB12'.trans (hal13.mono hB12'.size)
      try clear c0 c1 d0 d1 e0 e1
      clear hgp hv11 hp11 hv12 hal13
      go_wp2_with (with_reducible refine wp_at 60 rfl ?_)
      obtain ⟨w13, hw13⟩ : ∃ w13, w13 = w12.alloc (.cells #[.int .i64 n, .int .u16 (M : Int)] 24) := ⟨_, rfl⟩
      rw [← hw13] at hv13 hn13 hB13 ⊢
      obtain ⟨g10, hg10⟩ : ∃ b, b = w12.heap.size := ⟨_, rfl⟩
      rw [← hg10] at hn13 ⊢
      clear hw13 hg10
      have c0 := hv13.cellAt 0 _ rfl
      have c1 := hv13.cellAt 1 _ rfl
      refine wp_on ?_
      go_wp2_with (fail)
      refine (hrrt _).mono ?_
      rintro e w14 ⟨rfl, hB14⟩
      rw [Hr.out]
      have hB14' := hB13.trans (hB14.mono hB13.size)
      have hv14 := hv13.below hB14
      have hn14 := hn13.below hB14
      clear c0 c1 hv13 hn13
      have c0 := hv14.cellAt 0 _ rfl
      have c1 := hv14.cellAt 1 _ rfl
      have d0 := hn14.cellAt 0 _ rfl
      have d1 := hn14.cellAt 1 _ rfl
      go_wp2
      go_ret
      exact ⟨rfl, hB14'⟩
    | false =>
      have Hr := hid hr
      clear hr hgp
      go_wp2_with (fail)
      refine (get_any _ P _ _ hp11 (by omega)).mono ?_
      rintro e w12 ⟨rfl, hB12⟩
      obtain ⟨x2, y2, er2, hgot2, _, _, _⟩ := got_form P
      rw [hgot2]
      have hB12' := hB11'.trans (hB12.mono hB11'.size)
      have hv12 := hv11.below hB12
      have hal13 : Below w12.heap.size w12 (w12.alloc (.cells #[.int .i64 (x2 : Int), .int .u16 (y2 : Int)] 24)) := (Below.refl _ _).alloc (Nat.le_refl _) _
      have hv13 := hv12.below hal13
      have hB13 := hB12'.trans (hal13.mono hB12'.size)
      try clear c0 c1 d0 d1 e0 e1
      clear hgot2 hv11 hp11 hv12 hal13
      go_wp2_with (with_reducible refine wp_at 60 rfl ?_)
      obtain ⟨w13, hw13⟩ : ∃ w13, w13 = w12.alloc (.cells #[.int .i64 (x2 : Int), .int .u16 (y2 : Int)] 24) := ⟨_, rfl⟩
      rw [← hw13] at hv13 hB13 ⊢
      clear hw13
      have c0 := hv13.cellAt 0 _ rfl
      have c1 := hv13.cellAt 1 _ rfl
      refine wp_on ?_
      go_wp2_with (fail)
      refine (hrrt _).mono ?_
      rintro e w14 ⟨rfl, hB14⟩
      rw [Hr.out]
      go_wp2
      go_ret
      exact ⟨rfl, hB13.trans (hB14.mono hB13.size)⟩
end Go.Proofs.Ythibjdbjkkejeaa
