/- QI: layer 7: a request read of any bytes: contract of Get. -/
import Derived.Test.YtnhhbbjkeekneaaGreatDoorQH
namespace Go.Proofs.YtnhhbbjkeekneaaGreatDoor
open Go.RowKit Go.V
theorem textR_pos {most : Int} {X : List UInt8} {e : Nat} (h : textR most X = .error e) : e ≠ 0 := by
  unfold textR at h
  cases hr : readPk X with
  | error e' =>
    have := rdF_err _ _ _ _ hr
    rw [hr] at h
    simp only [cntR] at h
    injection h with h
    omega
  | ok r =>
    obtain ⟨x, n⟩ := r
    rw [hr] at h
    simp only [cntR] at h
    split at h
    · rename_i heq
      split at heq
      · cases heq
      · injection heq with heq
        injection heq with h1 h2
        split at h
        · injection h with h; omega
        · cases h
    · rename_i heq
      split at heq
      · injection heq with heq; injection h with h; omega
      · cases heq
theorem txtR_pos {X : List UInt8} {e : Nat} (h : txtR X = .error e) : e ≠ 0 := by
  unfold txtR at h
  split at h
  · injection h with h; omega
  · split at h
    · rename_i hq
      have := rdF_err _ _ _ _ hq
      injection h with h; omega
    · split at h
      · rename_i hq
        have := rdF_err _ _ _ _ hq
        injection h with h; omega
      · split at h
        · injection h with h; omega
        · cases h
/-- what a reading of a request answers -/
def GtQ (w : World) (r : Except Nat Rq) (e : Ending) (w' : World) : Prop := match r with
  | .ok r => ∃ u, e = .returned (.tuple #[.agg (r.l u).toArray, .int .i64 0]) ∧ Rd w' (fun b => w.heap.size ≤ b) u (bys r.g) ∧ Below w.heap.size w w'
  | .error er => e = .returned (.tuple #[.agg zQ.toArray, .int .i64 (er : Int)]) ∧ Below w.heap.size w w'
theorem GtQ.err {w w' : World} {r : Except Nat Rq} {er : Nat} (h : r = .error er) (hB : Below w.heap.size w w') : GtQ w r (.returned (.tuple #[.agg zQ.toArray, .int .i64 (er : Int)])) w' := by rw [h]; exact ⟨rfl, hB⟩
set_option maxRecDepth 100000 in
set_option maxHeartbeats 4000000 in
theorem gtReq7_any (v : Value) (X : List UInt8) (F : Nat → Prop) (w : World) (hv : Rd w F v (bys X)) (hXl : X.length ≤ 1000000) :
    Calls Tryz.prog 119 #[v] w (GtQ w (gtR7 X)) := by
  obtain ⟨A, cp, rfl⟩ := hv.shape
  have hT : gtR7 X = match textR 100 X with
    | .error e => .error e
    | .ok (n, z) => match txtR ((X.drop z).take n) with
      | .error e => .error e
      | .ok r => match textR 1000 (X.drop (z + n)) with
        | .error e => .error e
        | .ok (m, y) => if z + n + (y + m) < X.length then .error 2 else
            if ({ r with g := ((X.drop (z + n)).drop y).take m } : Rq).fm = true then .ok { r with g := ((X.drop (z + n)).drop y).take m } else .error 15 := rfl
  obtain ⟨T, hTT⟩ : ∃ T, T = gtR7 X := ⟨_, rfl⟩
  rw [← hTT] at hT ⊢
  clear hTT
  have hbz := bldZQ
  have hB : Below w.heap.size w (w.alloc (.cells #[.int .i64 0, .int .i64 0, .int .i64 0, .int .i64 0, .int .i64 0, .int .i64 0, .slice none 0 0] 126)) := (Below.refl _ _).alloc (Nat.le_refl _) _
  have hz := Blk.new' w 126 zQ
  have hbr := hv.below hB
  have Htt := hid hT
  clear hT
  go_enter Tryz.func119, Tryz.ntmps119
  go_wp2_with (fail)
  obtain ⟨w0, hw0⟩ : ∃ w0, w0 = w.alloc (.cells #[.int .i64 0, .int .i64 0, .int .i64 0, .int .i64 0, .int .i64 0, .int .i64 0, .slice none 0 0] 126) := ⟨_, rfl⟩
  have hz : Blk w0 w.heap.size 126 zQ := by rw [hw0]; exact hz
  rw [← hw0] at hB hbr ⊢
  clear hw0
  obtain ⟨g0, hg0⟩ : ∃ g, g = w.heap.size := ⟨_, rfl⟩
  rw [← hg0] at hz ⊢
  have hgw : w.heap.size ≤ g0 := by omega
  clear hg0
  refine (new_any _ X F _ hbr (by omega)).mono ?_
  rintro e w1 ⟨p, rfl, hp, hr1, hB1⟩
  have hB1' : Below w.heap.size w w1 := hB.trans (hB1.mono hB.size)
  have hz1 := hz.below hB1
  have hgl := hz.lt
  have hpw : w.heap.size ≤ p := by have := hB.size; omega
  have hpl : p < w1.heap.size := by obtain ⟨_, h, _⟩ := hr1; exact lt_of_block h
  obtain ⟨FF, hFF⟩ : ∃ FF, FF = fun b => w0.heap.size ≤ b ∧ b < p := ⟨_, rfl⟩
  rw [← hFF] at hr1
  have hFp : ∀ b, FF b → b < p := fun b h => by rw [hFF] at h; exact h.2
  clear hFF hz hbr hB hB1
  have t1 := text_any p FF X 0 100 w1 hr1 (by omega) (by omega) (by omega)
  rw [List.drop_zero] at t1
  cases hq1 : textR 100 X with
  | error e =>
    have hep := textR_pos hq1
    have hne : ((e : Int) != 0) = true := by rw [bne_iff_ne]; omega
    rw [hq1] at t1
    have Ht : Hid (T = .error e) := hid (by rw [Htt.out, hq1])
    unfold TextPost at t1
    have Hp := hid t1
    clear t1 hq1 hr1 hep Htt
    go_wp2_with (fail)
    refine Hp.out.mono ?_
    rintro e' w2 ⟨rfl, hr2, hC2⟩
    have hz2 := hz1.ch hC2 (by intro h; have h' : g0 = p := h; omega)
    have hB2 := Ch.below_of hB1' hC2 (fun k hk => by have : k = p := hk; omega) hB1'.size
    clear hr2 hC2 hz1
    go_wp2_with (first | refine wp_bld 126 [] rfl rfl [] rfl hbz ?_ | (refine wp_st 126 (.tmp 2) (.tmp 18) rfl rfl rfl (f := 0) rfl (l := zQ) rfl hz2 (by simp [zQ]) sizeQ zQ_one ?_; intro w9 hd9 hG9; refine wp_stop ?_))
    refine wp_go ?_
    go_wp2
    refine ret_cell1 rfl rfl rfl hd9.whole Tryz.underlying126 rfl sizeQ rfl ?_
    exact GtQ.err Ht.out (hB2.grown hG9 hB2.size (by intro k hk; injection hk with hk; omega))
  | ok nz =>
  obtain ⟨n, z⟩ := nz
  rw [hq1] at t1
  have hT1 := Htt.out
  rw [hq1] at hT1
  dsimp only at hT1
  unfold TextPost at t1
  dsimp only at t1
  rw [Nat.zero_add, List.drop_zero] at t1
  obtain ⟨Y, hY⟩ : ∃ Y, Y = (X.drop z).take n := ⟨_, rfl⟩
  rw [← hY] at t1 hT1
  have hYl : Y.length ≤ 1000000 := by rw [hY, List.length_take, List.length_drop]; omega
  have Ht1 := hid t1
  have Htt := hid hT1
  clear t1 hT1 hq1 hY
  go_wp2_with (fail)
  refine Ht1.out.mono ?_
  rintro e w2 ⟨v2, rfl, hv2, hr2, hC2⟩
  obtain ⟨A2, c2, rfl⟩ := hv2.shape
  have hz2 := hz1.ch hC2 (by intro h; have h' : g0 = p := h; omega)
  have hB2 := Ch.below_of hB1' hC2 (fun k hk => by have : k = p := hk; omega) hB1'.size
  have hrt := rdText7_any (.slice A2 Y.length c2) Y _ w2 hv2 hYl
  clear Ht1 hr1 hz1
  cases hq2 : txtR Y with
  | error e =>
    have hep := txtR_pos hq2
    have hne : ((e : Int) != 0) = true := by rw [bne_iff_ne]; omega
    rw [hq2] at hrt
    have Ht : Hid (T = .error e) := hid (by rw [Htt.out, hq2])
    unfold TxQ at hrt
    have Hrt := hid hrt
    clear hrt hq2 hep Htt
    go_wp2_with (fail)
    refine Hrt.out.mono ?_
    rintro e' w3 ⟨rfl, hB3⟩
    have hz3 := hz2.below hB3
    have hB3' := hB2.trans (hB3.mono hB2.size)
    clear hr2 hz2 hv2 Hrt
    go_wp2_with (refine wp_newst 126 7 (.tmp 23) rfl rfl rfl rfl rfl rfl zeroQ (l := zQ) rfl rfl sizeQ zQ_one (by simp) ?_; intro w4 hq4 hB4 hs4; refine wp_stop ?_)
    have hz4 := hz3.below hB4
    have hB4' := hB3'.trans (hB4.mono hB3'.size)
    clear hz3 hB4 hq4 hs4
    refine wp_go ?_
    go_wp2_with (first | refine wp_bld 126 [] rfl rfl [] rfl hbz ?_ | (refine wp_st 126 (.tmp 2) (.tmp 27) rfl rfl rfl (f := 0) rfl (l := zQ) rfl hz4 (by simp [zQ]) sizeQ zQ_one ?_; intro w9 hd9 hG9; refine wp_stop ?_))
    refine wp_go ?_
    go_wp2
    refine ret_cell1 rfl rfl rfl hd9.whole Tryz.underlying126 rfl sizeQ rfl ?_
    exact GtQ.err Ht.out (hB4'.grown hG9 hB4'.size (by intro k hk; injection hk with hk; omega))
  | ok r =>
  rw [hq2] at hrt
  unfold TxQ at hrt
  dsimp only at hrt
  have hT1 := Htt.out
  rw [hq2] at hT1
  dsimp only at hT1
  have Htt := hid hT1
  have Hrt := hid hrt
  clear hrt hT1 hq2
  go_wp2_with (fail)
  refine Hrt.out.mono ?_
  rintro e w3 ⟨rfl, hB3⟩
  have hr3 := hr2.belowR hB3
  have hz3 := hz2.below hB3
  have hB3' := hB2.trans (hB3.mono hB2.size)
  clear Hrt hr2 hz2 hv2
  go_wp2_with (refine wp_newst 126 7 (.tmp 23) rfl rfl rfl rfl rfl rfl zeroQ (l := r.l (.slice none 0 0)) rfl rfl sizeQ (oneQ r _ _ _) (by simp) ?_; intro w4 hq4 hB4 hs4; refine wp_stop ?_)
  have hr4 := hr3.belowR hB4
  have hz4 := hz3.below hB4
  have hB4' := hB3'.trans (hB4.mono hB3'.size)
  have hpl4 : p < w3.heap.size := by obtain ⟨_, h, _⟩ := hr3; exact lt_of_block h
  have hgl4 := hz3.lt
  obtain ⟨gq, hgq⟩ : ∃ g, g = w3.heap.size := ⟨_, rfl⟩
  rw [← hgq] at hq4 ⊢
  rw [← hgq] at hs4 hpl4 hgl4
  have hgwq : w.heap.size ≤ gq := by omega
  clear hgq hr3 hz3 hB4
  have t1 := text_any p FF X _ 1000 w4 hr4 (by omega) (by omega) (by omega)
  cases hq3 : textR 1000 (X.drop (z + n)) with
  | error e =>
    have hep := textR_pos hq3
    have hne : ((e : Int) != 0) = true := by rw [bne_iff_ne]; omega
    rw [hq3] at t1
    have Ht : Hid (T = .error e) := hid (by rw [Htt.out, hq3])
    unfold TextPost at t1
    have Hp := hid t1
    clear t1 hq3 hr4 hep Htt
    refine wp_go ?_
    go_wp2_with (fail)
    refine Hp.out.mono ?_
    rintro e' w5 ⟨rfl, hr5, hC5⟩
    have hz5 := hz4.ch hC5 (by intro h; have h' : g0 = p := h; omega)
    have hq5 := hq4.ch hC5 (by intro h; have h' : gq = p := h; omega)
    have hB5 := Ch.below_of hB4' hC5 (fun k hk => by have : k = p := hk; omega) hB4'.size
    clear hr5 hC5 hz4 hq4 Hp
    go_wp2_with (refine wp_st1 33 (.tmp 34) (.tmp 32) rfl rfl rfl (f := 6) rfl (v := .slice none 0 0) rfl hq5 (by simp [Rq.l]) sizeSl7 rfl rfl ?_; intro w6 hq6 hG6; refine wp_stop ?_)
    have hz6 := hz5.keep (hG6.block _ hz5.lt (by intro h; injection h with h; omega))
    have hB6 := hB5.grown hG6 hB5.size (by intro k hk; injection hk with hk; omega)
    clear hz5 hq5 hq6 hG6
    refine wp_go ?_
    go_wp2_with (first | refine wp_bld 126 [] rfl rfl [] rfl hbz ?_ | (refine wp_st 126 (.tmp 2) (.tmp 37) rfl rfl rfl (f := 0) rfl (l := zQ) rfl hz6 (by simp [zQ]) sizeQ zQ_one ?_; intro w9 hd9 hG9; refine wp_stop ?_))
    refine wp_go ?_
    go_wp2
    refine ret_cell1 rfl rfl rfl hd9.whole Tryz.underlying126 rfl sizeQ rfl ?_
    exact GtQ.err Ht.out (hB6.grown hG9 hB6.size (by intro k hk; injection hk with hk; omega))
  | ok my =>
  obtain ⟨m, y⟩ := my
  rw [hq3] at t1
  unfold TextPost at t1
  dsimp only at t1
  have hT1 := Htt.out
  rw [hq3] at hT1
  dsimp only at hT1
  obtain ⟨S, hS⟩ : ∃ S, S = ((X.drop (z + n)).drop y).take m := ⟨_, rfl⟩
  rw [← hS] at t1 hT1
  have Htt := hid hT1
  have Ht1 := hid t1
  clear t1 hr4 hT1 hq3 hS
  refine wp_go ?_
  go_wp2_with (fail)
  refine Ht1.out.mono ?_
  rintro e w5 ⟨v5, rfl, hv5, hr5, hC5⟩
  obtain ⟨A5, c5, rfl⟩ := hv5.shape
  have hz5 := hz4.ch hC5 (by intro h; have h' : g0 = p := h; omega)
  have hq5 := hq4.ch hC5 (by intro h; have h' : gq = p := h; omega)
  have hB5 := Ch.below_of hB4' hC5 (fun k hk => by have : k = p := hk; omega) hB4'.size
  clear Ht1 hz4 hq4
  obtain ⟨R, hR⟩ : ∃ R : Rq, R = { r with g := S } := ⟨_, rfl⟩
  rw [← hR] at Htt
  have hRl : ∀ u, R.l u = r.l u := fun u => by rw [hR]; rfl
  have hRg : R.g = S := by rw [hR]
  rw [← hRg] at hv5
  have hSl : S.length = R.g.length := by rw [hRg]
  rw [hSl]
  have HR := hid hRl
  clear hR hRl hSl hRg
  go_wp2_with (refine wp_st1 33 (.tmp 34) (.tmp 32) rfl rfl rfl (f := 6) rfl (v := .slice A5 R.g.length c5) rfl hq5 (by simp [Rq.l]) sizeSl7 rfl rfl ?_; intro w6 hq6 hG6; refine wp_stop ?_)
  have hq6 : Blk w6 gq 126 (R.l (.slice A5 R.g.length c5)) := by rw [HR.out]; exact hq6
  have hz6 := hz5.keep (hG6.block _ hz5.lt (by intro h; injection h with h; omega))
  have hr6 : RdR w6 p FF X (z + n + (y + m)) := by
    obtain ⟨_, hpb, _⟩ := id hr5
    exact RdR.keep hr5 (hG6.block _ (lt_of_block hpb) (by intro h; injection h with h; omega)) (fun b hb hF => hG6.block _ hb (by intro h; injection h with h; have := hFp b hF; omega))
  have hv6 : Rd w6 (fun b => w4.heap.size ≤ b) (.slice A5 R.g.length c5) (bys R.g) := hv5.keep (fun b hb hF => ⟨hF, hG6.block _ hb (by intro h; injection h with h; omega)⟩)
  have hB6 := hB5.grown hG6 hB5.size (by intro k hk; injection hk with hk; omega)
  clear hz5 hr5 hv5 hq5 hG6 HR
  have f1 := done_any p _ X _ _ hr6
  by_cases hlo : z + n + (y + m) < X.length
  · rw [if_pos hlo] at f1
    have Ht : Hid (T = .error 2) := hid (Htt.out.trans (if_pos hlo))
    have Hf := hid f1
    clear f1 hr6 Htt
    refine wp_go ?_
    go_wp2_with (fail)
    refine Hf.out.mono ?_
    rintro e _ ⟨rfl, nn, rfl⟩
    have hz7 := hz6.drewN nn
    have hB7 := Go.below_drewN hB6 nn
    obtain ⟨w7, hw7⟩ : ∃ x, x = w6.drewN nn := ⟨_, rfl⟩
    rw [← hw7] at hz7 hB7 ⊢
    clear hw7 hz6 hq6 hv6 hB6 Hf
    go_wp2_with (first | refine wp_bld 126 [] rfl rfl [] rfl hbz ?_ | (refine wp_st 126 (.tmp 2) (.tmp 43) rfl rfl rfl (f := 0) rfl (l := zQ) rfl hz7 (by simp [zQ]) sizeQ zQ_one ?_; intro w9 hd9 hG9; refine wp_stop ?_))
    refine wp_go ?_
    go_wp2
    refine ret_cell1 rfl rfl rfl hd9.whole Tryz.underlying126 rfl sizeQ rfl ?_
    exact GtQ.err Ht.out (hB7.grown hG9 hB7.size (by intro k hk; injection hk with hk; omega))
  rw [if_neg hlo] at f1
  have Htt := hid (Htt.out.trans (if_neg hlo))
  have Hf := hid f1
  clear f1 hr6
  refine wp_go ?_
  go_wp2_with (fail)
  refine Hf.out.mono ?_
  rintro e _ ⟨rfl, nn, rfl⟩
  have hz7 := hz6.drewN nn
  have hq7 := hq6.drewN nn
  have hv7 := hv6.ext ((Ch.refl nob w6).drewN nn)
  have hB7 := Go.below_drewN hB6 nn
  obtain ⟨w7, hw7⟩ : ∃ x, x = w6.drewN nn := ⟨_, rfl⟩
  rw [← hw7] at hz7 hq7 hv7 hB7 ⊢
  clear hw7 hz6 hq6 hv6 hB6 Hf
  have hfm := fun W h => (show Calls Tryz.prog 121 #[.agg (R.l (.slice A5 R.g.length c5)).toArray] W _ from formed_any R (.slice A5 R.g.length c5) (fun b => w4.heap.size ≤ b) W h)
  have hRl := len_l R (.slice A5 R.g.length c5)
  have h1R := oneQ R A5 R.g.length c5
  obtain ⟨q, hq⟩ : ∃ q, q = R.fm := ⟨_, rfl⟩
  rw [← hq] at hfm Htt
  obtain ⟨L, hL⟩ : ∃ L, L = R.l (.slice A5 R.g.length c5) := ⟨_, rfl⟩
  rw [← hL] at hfm hq7 hRl h1R
  have Hfm := hid hfm
  have HL := hid hL
  clear hfm hq hL
  go_wp2_with (first | refine wp_ld 126 (.tmp 7) rfl rfl rfl hq7.whole Tryz.underlying126 rfl (by rw [hRl]; exact sizeQ) ?_)
  refine (Hfm.out _ hv7).mono ?_
  rintro e w8 ⟨rfl, hB8⟩
  have hz8 := hz7.below hB8
  have hq8 := hq7.below hB8
  have hv8 := hv7.below hB8
  have hB8' := hB7.trans (hB8.mono hB7.size)
  clear hz7 hq7 hv7 Hfm
  cases q with
  | false =>
    have Ht : Hid (T = .error 15) := hid (Htt.out.trans (if_neg (by simp)))
    clear Htt hq8 hv8
    go_wp2_with (first | refine wp_bld 126 [] rfl rfl [] rfl hbz ?_ | (refine wp_st 126 (.tmp 2) (.tmp 48) rfl rfl rfl (f := 0) rfl (l := zQ) rfl hz8 (by simp [zQ]) sizeQ zQ_one ?_; intro w9 hd9 hG9; refine wp_stop ?_))
    refine wp_go ?_
    go_wp2
    refine ret_cell1 rfl rfl rfl hd9.whole Tryz.underlying126 rfl sizeQ rfl ?_
    exact GtQ.err Ht.out (hB8'.grown hG9 hB8'.size (by intro k hk; injection hk with hk; omega))
  | true =>
    have Ht : Hid (T = .ok R) := hid (Htt.out.trans (if_pos rfl))
    clear Htt
    go_wp2_with (first | refine wp_ld 126 (.tmp 7) rfl rfl rfl hq8.whole Tryz.underlying126 rfl (by rw [hRl]; exact sizeQ) ?_ | (refine wp_st 126 (.tmp 2) (.tmp 49) rfl rfl rfl (f := 0) rfl (l := L) rfl hz8 (by rw [hRl]; simp [zQ]) (by rw [hRl]; exact sizeQ) h1R ?_; intro w9 hd9 hG9; refine wp_stop ?_))
    rw [show zQ.take 0 ++ L ++ zQ.drop (0 + L.length) = L from by rw [hRl]; simp [zQ]] at hd9
    refine wp_go ?_
    go_wp2
    refine ret_cell1 rfl rfl rfl hd9.whole Tryz.underlying126 rfl (by rw [hRl]; exact sizeQ) rfl ?_
    rw [Ht.out]
    exact ⟨.slice A5 R.g.length c5, by rw [HL.out]; rfl, hv8.keep (fun b hb hF => ⟨by have := hB4'.size; omega, hG9.block _ hb (by intro h; injection h with h; omega)⟩), hB8'.grown hG9 hB8'.size (by intro k hk; injection hk with hk; omega)⟩
end Go.Proofs.YtnhhbbjkeekneaaGreatDoor
