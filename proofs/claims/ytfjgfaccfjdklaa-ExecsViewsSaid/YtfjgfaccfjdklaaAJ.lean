/- AJ: layer 15: contracts of execs over the landed code: moved. -/
import Derived.Test.YtfjgfaccfjdklaaAG
namespace Go.Proofs.Ytfjgfaccfjdklaa
open Go.RowKit Go.V
set_option maxRecDepth 100000 in
set_option maxHeartbeats 8000000 in
theorem moved15_any (W : Wo) (k : Int) (w : World) (hW : WoIn W) (hk : i64s k) (hs : i64s (W.s + 1)) :
    Calls Try.prog 15 #[.agg W.l.toArray, .int .i64 k] w fun e w' => e = .returned (.tuple #[.agg (movF W k).1.l.toArray, .agg (rvs (movF W k).2).toArray]) ∧ Below w.heap.size w w' := by
  obtain ⟨W0, hW0, b2, b4, b5, hB⟩ := alloc3 w 38 38 33 W.l zWo.l (rvs (false, 0))
  have HW := hid (wol hW)
  have HL := hid (len_wo hW)
  have Hone := hid (one_wo W)
  have hnx := hid (fun X => next_any W.v.n W.v.m k X hW.v.2 hk.1 hk.2)
  obtain ⟨D, hD⟩ : ∃ D, D = movF W k := ⟨_, rfl⟩
  rw [← hD]
  unfold movF mvB at hD
  have HI := hid hW
  clear hW
  go_enter Try.func15, Try.ntmps15
  go_wp2_with (first | (refine wp_new 38 rfl rfl zeroWo ?_; refine wp_new 33 rfl rfl zeroRs ?_; refine wp_stop ?_))
  rw [← hW0]
  clear hW0
  obtain ⟨g5, hg5⟩ : ∃ g, g = w.heap.size + 1 + 1 := ⟨_, rfl⟩
  rw [← hg5] at b5 ⊢
  obtain ⟨g4, hg4⟩ : ∃ g, g = w.heap.size + 1 := ⟨_, rfl⟩
  rw [← hg4] at b4 ⊢
  obtain ⟨g2, hg2⟩ : ∃ g, g = w.heap.size := ⟨_, rfl⟩
  rw [← hg2] at b2 ⊢
  have hw2 : w.heap.size ≤ g2 := by omega
  have h24 : g2 < g4 := by omega
  have h45 : g4 < g5 := by omega
  clear hg2 hg4 hg5
  have v0 : W0.cell? ⟨g2, 2, none⟩ = some (.int .i64 W.v.n) := b2.cellAt 2 _ (HW.out.v 0 _ rfl)
  have v1 : W0.cell? ⟨g2, 2 + 1, none⟩ = some (.int .u16 (W.v.m : Int)) := b2.cellAt 3 _ (HW.out.v 1 _ rfl)
  have u0 : W0.cell? ⟨g2, 4, none⟩ = some (.int .i64 W.u.n) := b2.cellAt 4 _ (HW.out.u 0 _ rfl)
  have u1 : W0.cell? ⟨g2, 4 + 1, none⟩ = some (.int .u16 (W.u.m : Int)) := b2.cellAt 5 _ (HW.out.u 1 _ rfl)
  have s0 : W0.cell? ⟨g2, 0, none⟩ = some (.int .i64 W.s) := b2.cellAt 0 _ HW.out.s
  refine wp_go ?_
  by_cases he : W.v = W.u
  · rw [← he] at u0 u1
    have hmw : (⟨W.s, W.s + 1, ⟨W.v.n + 1, k.toNat⟩, W.u, W.c, W.a⟩ : Wo) = moveC W k := rfl
    cases hx : nxB W.v.n W.v.m k with
    | false =>
      have Hd : Hid (D = (W, (false, 0))) := by
        show _ = _
        rw [hD, hx, Bool.and_false]
        rfl
      have Hn := hid (nxR_no hx)
      clear hD hx he
      go_wp2_with (fail)
      refine (hnx.out _).mono ?_
      rintro e w1 ⟨rfl, hB1⟩
      rw [Hn.out]
      have b2 := b2.below hB1
      have b4 := b4.below hB1
      have b5 := b5.below hB1
      have hB := hB.trans (hB1.mono hB.size)
      clear hB1 v0 v1 u0 u1 s0
      go_wp2_with (first | (refine wp_newst 28 6 (.tmp 20) rfl rfl rfl rfl rfl rfl zeroV (l := [.int .i64 0, .int .u16 0]) rfl rfl sizeV (one_vw ⟨0, 0⟩) (by simp) ?_; intro w2 b6 hB2 hs2; refine wp_stop ?_))
      have b2 := b2.below hB2
      have b4 := b4.below hB2
      have b5 := b5.below hB2
      have hB := hB.trans (hB2.mono hB.size)
      clear hB2 hs2 b6
      refine wp_go ?_
      go_wp2_with (first | refine wp_ld 38 (.tmp 2) rfl rfl rfl b2.whole Try.underlying38 rfl (by rw [HL.out]; exact sizeW15) ?_ | refine wp_bld 33 [] rfl rfl [] rfl bldRs ?_ | (refine wp_st 38 (.tmp 4) (.tmp 24) rfl rfl rfl (f := 0) rfl (l := W.l) rfl b4 (by rw [HL.out, len_zWo]; omega) (by rw [HL.out]; exact sizeW15) Hone.out ?_; intro x1 k4 G4; refine wp_st 33 (.tmp 5) (.tmp 25) rfl rfl rfl (f := 0) rfl (l := rvs (false, 0)) rfl (b5.keep (G4.block _ b5.lt (by intro e; injection e with e; omega))) (by show 0 + 2 ≤ 2; omega) sizeRs (one_rvs _) ?_; intro x2 k5 G5))
      have h4 := (blk_all k4 (by rw [HL.out, len_zWo]; omega)).keep (G5.block _ k4.lt (by intro e; injection e with e; omega))
      have h5 := blk_all k5 (by show 2 ≤ 2; omega)
      have hB := (hB.grown G4 hB.size (by intro k hk; injection hk with hk; omega)).grown G5 (Nat.le_trans hB.size G4.size) (by intro k hk; injection hk with hk; omega)
      refine ret_cell2 rfl rfl rfl h4.whole h5.whole Try.underlying38 rfl (by rw [HL.out]; exact sizeW15) Try.underlying33 rfl sizeRs rfl ?_
      exact ⟨by rw [Hd.out], hB⟩
    | true =>
      obtain ⟨m, hm⟩ : ∃ m, m = k.toNat := ⟨_, rfl⟩
      have Hd : Hid (D = (moveC W k, (true, W.v.n + 1))) := by
        show _ = _
        rw [hD, hx, decide_eq_true he]
        rfl
      have Hn : Hid (nxR W.v.n W.v.m k = .tuple #[.agg #[.int .i64 (W.v.n + 1), .int .u16 (m : Int)], .int .i64 0]) := by
        show _ = _
        unfold nxR
        rw [if_pos hx, hm]
        rfl
      have hwr : IntKind.i64.wrap (W.s + 1) = W.s + 1 := IntWalk.i64_in _ (by unfold i64s at hs; omega)
      obtain ⟨hr1, hk0, hk1, hr2⟩ := nxB_spec hx
      have HI2 : Hid (WoIn (moveC W k)) := ⟨HI.out.s, hs, ⟨(by have := rgt_sz hr2; show i64s (W.v.n + 1); unfold i64s; omega), (by show k.toNat < 65536; omega)⟩, HI.out.u, HI.out.c, HI.out.a⟩
      have Hm := hid hm
      clear hD hx he hr1 hr2 hk0 hk1 hm
      go_wp2_with (fail)
      refine (hnx.out _).mono ?_
      rintro e w1 ⟨rfl, hB1⟩
      rw [Hn.out]
      have b2 := b2.below hB1
      have b4 := b4.below hB1
      have b5 := b5.below hB1
      have hB := hB.trans (hB1.mono hB.size)
      clear hB1 v0 v1 u0 u1 s0
      have h56 : g5 < w1.heap.size := b5.lt
      go_wp2_with (first | (refine wp_newst 28 6 (.tmp 20) rfl rfl rfl rfl rfl rfl zeroV (l := [.int .i64 (W.v.n + 1), .int .u16 (m : Int)]) rfl rfl sizeV (one_vw ⟨W.v.n + 1, m⟩) (by simp) ?_; intro w2 b6 hB2 hs2; refine wp_stop ?_))
      have b2 := b2.below hB2
      have b4 := b4.below hB2
      have b5 := b5.below hB2
      have hB := hB.trans (hB2.mono hB.size)
      obtain ⟨g6, hg6⟩ : ∃ g, g = w1.heap.size := ⟨_, rfl⟩
      rw [← hg6] at b6 h56 ⊢
      have b6 : Blk w2 g6 28 (Vw.l ⟨W.v.n + 1, m⟩) := b6
      clear hB2 hs2 hg6
      have s0 : w2.cell? ⟨g2, 0, none⟩ = some (.int .i64 W.s) := b2.cellAt 0 _ HW.out.s
      refine wp_go ?_
      go_wp2_with (first | refine wp_ld 28 (.tmp 6) rfl rfl rfl b6.whole Try.underlying28 rfl sizeV ?_ | (refine wp_st 28 (.tmp 30) (.tmp 26) rfl rfl rfl (f := 2) rfl (l := Vw.l ⟨W.v.n + 1, m⟩) rfl b2 (by rw [HL.out]; show 2 + 2 ≤ 68; omega) sizeV (one_vw _) ?_; intro w3 k2 G2; refine wp_stop ?_))
      obtain ⟨W1, hW1⟩ : ∃ V : Wo, V = ⟨W.s, W.f, ⟨W.v.n + 1, m⟩, W.u, W.c, W.a⟩ := ⟨_, rfl⟩
      have k2 : Blk w3 g2 38 W1.l := by rw [hW1, ← wl_v W]; exact k2
      have HL1 : Hid (W1.l.length = 68) := by
        show _ = _
        rw [hW1, ← wl_v W]
        simp only [List.length_append, List.length_take, List.length_drop, HL.out]
        rfl
      have b4 := b4.keep (G2.block _ b4.lt (by intro e; injection e with e; omega))
      have b5 := b5.keep (G2.block _ b5.lt (by intro e; injection e with e; omega))
      have b6 := b6.keep (G2.block _ b6.lt (by intro e; injection e with e; omega))
      have hB := hB.grown G2 hB.size (by intro k hk; injection hk with hk; omega)
      have E1 := hid hW1
      clear hW1 G2 s0 b2
      refine wp_go ?_
      go_wp2_with (first | (refine wp_st1 3 (.tmp 31) (.tmp 29) rfl rfl rfl (f := 1) rfl (v := .int .i64 (W.s + 1)) rfl k2 (by rw [HL1.out]; omega) sizeIk15 rfl rfl ?_; intro w4 k3 G3; refine wp_stop ?_))
      obtain ⟨W2, hW2⟩ : ∃ V : Wo, V = moveC W k := ⟨_, rfl⟩
      have k3 : Blk w4 g2 38 W2.l := by
        have e : W1.l.set 1 (.int .i64 (W.s + 1)) = W2.l := by rw [hW2, E1.out, Hm.out]; rfl
        rw [← e]; exact k3
      have b4 := b4.keep (G3.block _ b4.lt (by intro e; injection e with e; omega))
      have b5 := b5.keep (G3.block _ b5.lt (by intro e; injection e with e; omega))
      have b6 := b6.keep (G3.block _ b6.lt (by intro e; injection e with e; omega))
      have hB := hB.grown G3 hB.size (by intro k hk; injection hk with hk; omega)
      have HL2 : Hid (W2.l.length = 68) := by show _ = _; rw [hW2]; exact len_wo HI2.out
      have Ho2 : Hid (∀ v ∈ W2.l, v.oneCell' = true) := one_wo _
      rw [← hW2] at Hd
      clear hW2 G3 k2 E1 HL1
      refine wp_go ?_
      go_upto_region 7 with (fail)
      have h4 := b4.drew
      have h5 := b5.drew
      have X2 : Hid (∀ Z, Ch (fun y => y = g4 ∨ y = g5) w4 Z → Blk Z g2 38 W2.l) := fun Z h => k3.ch h (by rintro (h | h) <;> omega)
      have X6 : Hid (∀ Z, Ch (fun y => y = g4 ∨ y = g5) w4 Z → Z.cell? ⟨g6, 0, none⟩ = some (.int .i64 (W.v.n + 1))) := fun Z h => (b6.ch h (by rintro (h | h) <;> omega)).cellAt 0 _ rfl
      refine wp_region_noPanic ?_
      refine wp_region_held_drew (S := Ch (fun y => y = g4 ∨ y = g5) w4) (by kernel_rfl) ((Ch.refl _ _).drew) (fun hHeld => ?_)
      refine wpAnyH_take (i := 0) (oi := ⟨some 32, .load 38 (.tmp 2), _, _, _, none⟩) (v := _) rfl (by kernel_rfl) (by kernel_rfl) (by kernel_rfl) (fun _ _ _ h => h) (yieldsIf_load_mid (by rfl) 38 (.tmp 2) (by rfl) _ (0) (by rfl) _ _ (fun _ hs => (X2.out _ hs).whole) Try.underlying38 rfl (by rw [HL2.out]; exact sizeW15)) (by assumption) ?_
      try simp only [Act.put, List.setIfInBounds_toArray, List.set_cons_zero, List.set_cons_succ]
      refine wpAnyH_take (i := 1) (oi := ⟨some 33, _, _, _, _, none⟩) (v := ?_) rfl (by kernel_rfl) (by kernel_rfl) (by kernel_rfl) (fun _ _ _ h => h) (Or.inl ⟨by rfl, ?_⟩) (by assumption) ?_
      rotate_left
      · intro w hSw; go_simp; try with_reducible rfl
      try simp only [Act.put, List.setIfInBounds_toArray, List.set_cons_zero, List.set_cons_succ]
      refine wpAnyH_take (i := 2) (oi := ⟨some 34, _, _, _, _, none⟩) (v := ?_) rfl (by kernel_rfl) (by kernel_rfl) (by kernel_rfl) (fun _ _ _ h => h) (Or.inl ⟨by rfl, ?_⟩) (by assumption) ?_
      rotate_left
      · intro w hSw; have hcw := X6.out w hSw; go_simp; try with_reducible rfl
      try simp only [Act.put, List.setIfInBounds_toArray, List.set_cons_zero, List.set_cons_succ]
      refine wpAnyH_take (i := 3) (oi := ⟨some 35, _, _, _, _, none⟩) (v := _) rfl (by kernel_rfl) (by kernel_rfl) (by kernel_rfl) (fun _ _ _ h => h) (y_bld (by rfl) 33 [(0, .const (.bool true)), (1, .tmp 34)] (by rfl) [(0, .bool true), (1, .int .i64 (W.v.n + 1))] (by rfl) (bldRv true (W.v.n + 1))) (by assumption) ?_
      try simp only [Act.put, List.setIfInBounds_toArray, List.set_cons_zero, List.set_cons_succ]
      refine wpAnyH_ready (rs := [4]) (by kernel_rfl) (by simp) ?_
      refine AllReadyH.cons (o := ⟨none, _, _, _, _, none⟩) rfl (fun K hK => ?_) AllReadyH.nil
      refine step_st 38 (.tmp 4) (.tmp 32) (by rfl) (by rfl) (by rfl) (f := 0) (by rfl) (l := W2.l) (by rfl) h4 (by rw [HL2.out, len_zWo]; omega) (by rw [HL2.out]; exact sizeW15) Ho2.out ?_
      intro x1 k4 G4
      have h4 := blk_all k4 (by rw [HL2.out, len_zWo]; omega)
      have h5 := h5.keep (G4.block _ h5.lt (by intro e; injection e with e; omega))
      refine hK.out _ _ (hHeld.grow G4 (fun k hk => .inl (.inl (by injection hk with hk; exact hk.symm)))) (fun hHeld => ?_)
      clear hK K
      try simp only [Act.put, List.setIfInBounds_toArray, List.set_cons_zero, List.set_cons_succ]
      refine wpAnyH_ready (rs := [5]) (by kernel_rfl) (by simp) ?_
      refine AllReadyH.cons (o := ⟨none, _, _, _, _, none⟩) rfl (fun K hK => ?_) AllReadyH.nil
      refine step_st 33 (.tmp 5) (.tmp 35) (by rfl) (by rfl) (by rfl) (f := 0) (by rfl) (l := rvs (true, W.v.n + 1)) (by rfl) h5 (by show 0 + 2 ≤ 2; omega) sizeRs (one_rvs _) ?_
      intro x2 k5 G5
      have h5 := blk_all k5 (by show 2 ≤ 2; omega)
      have h4 := h4.keep (G5.block _ h4.lt (by intro e; injection e with e; omega))
      refine hK.out _ _ (hHeld.grow G5 (fun k hk => .inl (.inr (by injection hk with hk; exact hk.symm)))) (fun hHeld => ?_)
      clear hK K
      try simp only [Act.put, List.setIfInBounds_toArray, List.set_cons_zero, List.set_cons_succ]
      refine wpAnyH_done (by kernel_rfl) ?_ _
      refine NoPanic.normal ?_
      have hB := Ch.below_of hB hHeld (fun k hk => by rcases hk with rfl | rfl <;> omega) hB.size
      go_wp2
      refine ret_cell2 rfl rfl rfl h4.whole h5.whole Try.underlying38 rfl (by rw [HL2.out]; exact sizeW15) Try.underlying33 rfl sizeRs rfl ?_
      exact ⟨by rw [Hd.out], hB⟩
  · have Hd : Hid (D = (W, (false, 0))) := by
      show _ = _
      rw [hD, decide_eq_false he]
      rfl
    have hne : ¬ (W.v.n = W.u.n ∧ W.v.m = W.u.m) := fun h => he (by
      obtain ⟨a, b⟩ := h
      obtain ⟨s, f, ⟨n1, m1⟩, ⟨n2, m2⟩, c, a'⟩ := W
      dsimp only at a b ⊢
      rw [a, b])
    clear hD he
    go_upto_region 2 with (fail)
    all_goals clear v0 v1 u0 u1 s0
    all_goals go_wp2_with (first | refine wp_ld 38 (.tmp 2) rfl rfl rfl b2.whole Try.underlying38 rfl (by rw [HL.out]; exact sizeW15) ?_ | refine wp_bld 33 [] rfl rfl [] rfl bldRs ?_ | (refine wp_st 38 (.tmp 4) (.tmp 13) rfl rfl rfl (f := 0) rfl (l := W.l) rfl b4 (by rw [HL.out, len_zWo]; omega) (by rw [HL.out]; exact sizeW15) Hone.out ?_; intro x1 k4 G4; refine wp_st 33 (.tmp 5) (.tmp 14) rfl rfl rfl (f := 0) rfl (l := rvs (false, 0)) rfl (b5.keep (G4.block _ b5.lt (by intro e; injection e with e; omega))) (by show 0 + 2 ≤ 2; omega) sizeRs (one_rvs _) ?_; intro x2 k5 G5))
    all_goals have h4 := (blk_all k4 (by rw [HL.out, len_zWo]; omega)).keep (G5.block _ k4.lt (by intro e; injection e with e; omega))
    all_goals have h5 := blk_all k5 (by show 2 ≤ 2; omega)
    all_goals have hB := (hB.grown G4 hB.size (by intro k hk; injection hk with hk; omega)).grown G5 (Nat.le_trans hB.size G4.size) (by intro k hk; injection hk with hk; omega)
    all_goals refine ret_cell2 rfl rfl rfl h4.whole h5.whole Try.underlying38 rfl (by rw [HL.out]; exact sizeW15) Try.underlying33 rfl sizeRs rfl ?_
    all_goals exact ⟨by rw [Hd.out], hB⟩
end Go.Proofs.Ytfjgfaccfjdklaa
