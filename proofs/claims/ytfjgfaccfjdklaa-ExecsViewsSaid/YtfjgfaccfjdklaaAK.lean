/- AK: layer 15: contracts of execs over the landed code: done. -/
import Derived.Test.YtfjgfaccfjdklaaAJ
namespace Go.Proofs.Ytfjgfaccfjdklaa
open Go.RowKit Go.V
theorem mov_in {W : Wo} {k : Int} (hW : WoIn W) (hs : i64s (W.s + 1)) : WoIn (movF W k).1 ∧ i64s (movF W k).2.2 := by
  unfold movF
  split
  · rename_i h
    unfold mvB at h
    simp only [Bool.and_eq_true] at h
    obtain ⟨_, h0, h1, h2⟩ := nxB_spec h.2
    have h3 : i64s (W.v.n + 1) := by have := rgt_sz h2; unfold i64s; omega
    exact ⟨⟨hW.s, hs, ⟨h3, by show k.toNat < 65536; omega⟩, hW.u, hW.c, hW.a⟩, h3⟩
  · exact ⟨hW, z64⟩
set_option maxRecDepth 100000 in
set_option maxHeartbeats 8000000 in
theorem done15_any (W : Wo) (o : Ok) (w : World) (hW : WoIn W) (ho : OkIn o) (hs : i64s (W.s + 1)) (hq : i64s (doK (nmF W.c) o).2.2) :
    Calls Try.prog 12 #[.agg W.l.toArray, .agg o.l.toArray] w fun e w' => ∃ V q, e = .returned (.tuple #[.agg V.l.toArray, .agg (rvs q).toArray]) ∧ DoneP W o V q ∧ Below w.heap.size w w' := by
  obtain ⟨W0, hW0, b2, b3, b4, b5, hB⟩ := alloc4 w 38 44 38 33 W.l o.l zWo.l (rvs (false, 0))
  have b4 : Blk W0 (w.heap.size + 1 + 1) 38 zWo.l := b4
  have b5 : Blk W0 (w.heap.size + 1 + 1 + 1) 33 (rvs (false, 0)) := b5
  have HW := hid (wol hW)
  have HL := hid (len_wo hW)
  have Hone := hid (one_wo W)
  have Hmv := hid (fun X => moved15_any W o.a X hW ho.a hs)
  have Hmi := hid (mov_in (k := o.a) hW hs)
  have Hdo := hid (fun X => kvdo15_any W.c o X hW.c ho)
  have Lc := hid (show (cvs W.c).length = 32 by rw [len_cvs, hW.c.len])
  have HI := hid hW
  have Hq := hid hq
  clear hW hs hq
  go_enter Try.func12, Try.ntmps12
  go_wp2_with (first | (refine wp_new 38 rfl rfl zeroWo ?_; refine wp_new 33 rfl rfl zeroRs ?_; refine wp_stop ?_))
  rw [← hW0]
  clear hW0
  obtain ⟨g5, hg5⟩ : ∃ g, g = w.heap.size + 1 + 1 + 1 := ⟨_, rfl⟩
  rw [← hg5] at b5 ⊢
  obtain ⟨g4, hg4⟩ : ∃ g, g = w.heap.size + 1 + 1 := ⟨_, rfl⟩
  rw [← hg4] at b4 ⊢
  obtain ⟨g3, hg3⟩ : ∃ g, g = w.heap.size + 1 := ⟨_, rfl⟩
  rw [← hg3] at b3 ⊢
  obtain ⟨g2, hg2⟩ : ∃ g, g = w.heap.size := ⟨_, rfl⟩
  rw [← hg2] at b2 ⊢
  have hw2 : w.heap.size ≤ g2 := by omega
  have h23 : g2 < g3 := by omega
  have h34 : g3 < g4 := by omega
  have h45 : g4 < g5 := by omega
  clear hg2 hg3 hg4 hg5
  obtain ⟨k, y, a, b⟩ := o
  have d0 := b3.cellAt 0 _ rfl
  have d2 := b3.cellAt 2 _ rfl
  dsimp only at Hmv Hmi d0 d2
  refine wp_go ?_
  by_cases hk : k = 6
  · subst hk
    obtain ⟨⟨V, q⟩, hM⟩ : ∃ M, M = movF W a := ⟨_, rfl⟩
    rw [← hM] at Hmv Hmi
    have HM := hid hM
    have HLV := hid (len_wo Hmi.out.1)
    have HoV := hid (one_wo V)
    clear hM
    dsimp only at Hmv Hmi HLV
    go_wp2_with (refine wp_ld 38 (.tmp 2) rfl rfl rfl b2.whole Try.underlying38 rfl (by rw [HL.out]; exact sizeW15) ?_)
    refine (Hmv.out _).mono ?_
    rintro e w1 ⟨rfl, hB1⟩
    have b4 := b4.below hB1
    have b5 := b5.below hB1
    have hB := hB.trans (hB1.mono hB.size)
    go_wp2_with (first | (refine wp_st 38 (.tmp 4) (.tmp 14) rfl rfl rfl (f := 0) rfl (l := V.l) rfl b4 (by rw [HLV.out, len_zWo]; omega) (by rw [HLV.out]; exact sizeW15) HoV.out ?_; intro x1 k4 G4; refine wp_st 33 (.tmp 5) (.tmp 15) rfl rfl rfl (f := 0) rfl (l := rvs q) rfl (b5.keep (G4.block _ b5.lt (by intro e; injection e with e; omega))) (by show 0 + 2 ≤ 2; omega) sizeRs (one_rvs _) ?_; intro x2 k5 G5))
    have h4 := (blk_all k4 (by rw [HLV.out, len_zWo]; omega)).keep (G5.block _ k4.lt (by intro e; injection e with e; omega))
    have h5 := blk_all k5 (by show 2 ≤ 2; omega)
    have hB := (hB.grown G4 hB.size (by intro k hk; injection hk with hk; omega)).grown G5 (Nat.le_trans hB.size G4.size) (by intro k hk; injection hk with hk; omega)
    refine ret_cell2 rfl rfl rfl h4.whole h5.whole Try.underlying38 rfl (by rw [HLV.out]; exact sizeW15) Try.underlying33 rfl sizeRs rfl ?_
    exact ⟨V, q, rfl, ⟨Hmi.out.1, Hmi.out.2, fun _ => HM.out, fun h => absurd rfl h⟩, hB⟩
  · obtain ⟨D, hD⟩ : ∃ D, D = doK (nmF W.c) ⟨k, y, a, b⟩ := ⟨_, rfl⟩
    rw [← hD] at Hdo Hq
    have HD := hid hD
    clear hD Hmv Hmi
    have hcr := b2.range 6 (cvs W.c) HW.out.c
    go_wp2_with (first | (refine wp_new 33 rfl rfl zeroRs ?_; refine wp_stop ?_))
    have b6 := Blk.new' W0 33 (rvs (false, 0))
    have hB6 : Below W0.heap.size W0 (W0.alloc (.cells (rvs (false, 0)).toArray 33)) := (Below.refl _ _).alloc (Nat.le_refl _) _
    have b56 := b5.lt
    obtain ⟨w1, hw1⟩ : ∃ x, x = W0.alloc (.cells (rvs (false, 0)).toArray 33) := ⟨_, rfl⟩
    rw [← hw1] at b6 hB6 ⊢
    obtain ⟨g6, hg6⟩ : ∃ g, g = W0.heap.size := ⟨_, rfl⟩
    have hB := hB.trans (hB6.mono hB.size)
    have b2 := b2.below hB6
    have b3 := b3.below hB6
    have b4 := b4.below hB6
    have b5 := b5.below hB6
    rw [← hg6] at b6 b56 ⊢
    clear hw1 hB6 hg6 d0 d2 hcr
    have hcr := b2.range 6 (cvs W.c) HW.out.c
    refine wp_go ?_
    go_wp2_with (first | refine wp_ld 31 (.tmp 17) rfl rfl rfl hcr Try.underlying31 rfl (by rw [Lc.out]; exact sizeCs) ?_ | refine wp_ld 44 (.tmp 3) rfl rfl rfl b3.whole Try.underlying44 rfl sizeOk ?_)
    refine (Hdo.out _).mono ?_
    rintro e w2 ⟨c', rfl, hc, hn, hz, hB2⟩
    have b2 := b2.below hB2
    have b4 := b4.below hB2
    have b5 := b5.below hB2
    have b6 := b6.below hB2
    have hB := hB.trans (hB2.mono hB.size)
    have Hc := hid hc
    have Hn := hid hn
    have Hz : Hid (ZC c') := hid hz
    have Lc' := hid (show (cvs c').length = 32 by rw [len_cvs, hc.len])
    have Ho := hid (one_cvs c')
    obtain ⟨q, hq⟩ : ∃ q, q = D.2 := ⟨_, rfl⟩
    rw [← hq]
    have HqD := hid hq
    obtain ⟨cc, hcc⟩ : ∃ q, q = cvs c' := ⟨_, rfl⟩
    rw [← hcc] at Lc' Ho ⊢
    have Hcc := hid hcc
    clear hc hn hz hB2 hcc hcr hq
    go_wp2_with (first | (refine wp_st 31 (.tmp 23) (.tmp 21) rfl rfl rfl (f := 6) rfl (l := cc) rfl b2 (by rw [HL.out, Lc'.out]; omega) (by rw [Lc'.out]; exact sizeCs) Ho.out ?_; intro x1 k2 G2; refine wp_st 33 (.tmp 6) (.tmp 22) rfl rfl rfl (f := 0) rfl (l := rvs q) rfl (b6.keep (G2.block _ b6.lt (by intro e; injection e with e; omega))) (by show 0 + 2 ≤ 2; omega) sizeRs (one_rvs _) ?_; intro x2 k6 G6; refine wp_stop ?_))
    have k6 := blk_all k6 (by show 2 ≤ 2; omega)
    obtain ⟨V, hV⟩ : ∃ V : Wo, V = cellC W c' := ⟨_, rfl⟩
    have k2 : Blk x2 g2 38 V.l := by
      have e : W.l.take 6 ++ cc ++ W.l.drop (6 + cc.length) = V.l := by
        rw [Lc'.out, hV, Hcc.out, wl_c W c' HI.out.c.len]
      rw [← e]; exact k2.keep (G6.block _ k2.lt (by intro e; injection e with e; omega))
    have b4 := (b4.keep (G2.block _ b4.lt (by intro e; injection e with e; omega)))
    have b5 := (b5.keep (G2.block _ b5.lt (by intro e; injection e with e; omega)))
    have b4 := (b4.keep (G6.block _ b4.lt (by intro e; injection e with e; omega)))
    have b5 := (b5.keep (G6.block _ b5.lt (by intro e; injection e with e; omega)))
    have hB := (hB.grown G2 hB.size (by intro k hk; injection hk with hk; omega)).grown G6 (Nat.le_trans hB.size G2.size) (by intro k hk; injection hk with hk; omega)
    have HV := hid hV
    have HVI : Hid (WoIn V) := by show WoIn V; rw [hV]; exact ⟨HI.out.s, HI.out.f, HI.out.v, HI.out.u, Hc.out, HI.out.a⟩
    have HLV := hid (len_wo HVI.out)
    have HoV := hid (one_wo V)
    clear hV G2 G6 b6
    refine wp_go ?_
    go_upto_region 5 with (fail)
    have h4 := b4.drew
    have h5 := b5.drew
    have X2 : Hid (∀ Z, Ch (fun y => y = g4 ∨ y = g5) x2 Z → Blk Z g2 38 V.l) := fun Z h => k2.ch h (by rintro (h | h) <;> omega)
    have X6 : Hid (∀ Z, Ch (fun y => y = g4 ∨ y = g5) x2 Z → Blk Z g6 33 (rvs q)) := fun Z h => k6.ch h (by rintro (h | h) <;> omega)
    refine wp_region_noPanic ?_
    refine wp_region_held_drew (S := Ch (fun y => y = g4 ∨ y = g5) x2) (by kernel_rfl) ((Ch.refl _ _).drew) (fun hHeld => ?_)
    refine wpAnyH_take (i := 0) (oi := ⟨some 24, .load 38 (.tmp 2), _, _, _, none⟩) (v := _) rfl (by kernel_rfl) (by kernel_rfl) (by kernel_rfl) (fun _ _ _ h => h) (yieldsIf_load_mid (by rfl) 38 (.tmp 2) (by rfl) _ (0) (by rfl) _ _ (fun _ hs => (X2.out _ hs).whole) Try.underlying38 rfl (by rw [HLV.out]; exact sizeW15)) (by assumption) ?_
    try simp only [Act.put, List.setIfInBounds_toArray, List.set_cons_zero, List.set_cons_succ]
    refine wpAnyH_take (i := 1) (oi := ⟨some 25, .load 33 (.tmp 6), _, _, _, none⟩) (v := _) rfl (by kernel_rfl) (by kernel_rfl) (by kernel_rfl) (fun _ _ _ h => h) (yieldsIf_load_mid (by rfl) 33 (.tmp 6) (by rfl) _ (0) (by rfl) _ _ (fun _ hs => (X6.out _ hs).whole) Try.underlying33 rfl (sizeRs)) (by assumption) ?_
    try simp only [Act.put, List.setIfInBounds_toArray, List.set_cons_zero, List.set_cons_succ]
    refine wpAnyH_ready (rs := [2]) (by kernel_rfl) (by simp) ?_
    refine AllReadyH.cons (o := ⟨none, _, _, _, _, none⟩) rfl (fun K hK => ?_) AllReadyH.nil
    refine step_st 38 (.tmp 4) (.tmp 24) (by rfl) (by rfl) (by rfl) (f := 0) (by rfl) (l := V.l) (by rfl) h4 (by rw [HLV.out, len_zWo]; omega) (by rw [HLV.out]; exact sizeW15) HoV.out ?_
    intro y1 k4 G4
    have h4 := blk_all k4 (by rw [HLV.out, len_zWo]; omega)
    have h5 := h5.keep (G4.block _ h5.lt (by intro e; injection e with e; omega))
    refine hK.out _ _ (hHeld.grow G4 (fun k hk => .inl (.inl (by injection hk with hk; exact hk.symm)))) (fun hHeld => ?_)
    clear hK K
    try simp only [Act.put, List.setIfInBounds_toArray, List.set_cons_zero, List.set_cons_succ]
    refine wpAnyH_ready (rs := [3]) (by kernel_rfl) (by simp) ?_
    refine AllReadyH.cons (o := ⟨none, _, _, _, _, none⟩) rfl (fun K hK => ?_) AllReadyH.nil
    refine step_st 33 (.tmp 5) (.tmp 25) (by rfl) (by rfl) (by rfl) (f := 0) (by rfl) (l := rvs q) (by rfl) h5 (by show 0 + 2 ≤ 2; omega) sizeRs (one_rvs _) ?_
    intro y2 k5 G5
    have h5 := blk_all k5 (by show 2 ≤ 2; omega)
    have h4 := h4.keep (G5.block _ h4.lt (by intro e; injection e with e; omega))
    refine hK.out _ _ (hHeld.grow G5 (fun k hk => .inl (.inr (by injection hk with hk; exact hk.symm)))) (fun hHeld => ?_)
    clear hK K
    try simp only [Act.put, List.setIfInBounds_toArray, List.set_cons_zero, List.set_cons_succ]
    refine wpAnyH_done (by kernel_rfl) ?_ _
    refine NoPanic.normal ?_
    have hB := Ch.below_of hB hHeld (fun k hk => by rcases hk with rfl | rfl <;> omega) hB.size
    go_wp2
    refine ret_cell2 rfl rfl rfl h4.whole h5.whole Try.underlying38 rfl (by rw [HLV.out]; exact sizeW15) Try.underlying33 rfl sizeRs rfl ?_
    refine ⟨V, q, rfl, ⟨HVI.out, by rw [HqD.out]; exact Hq.out, fun h => absurd h hk, fun _ => ⟨by rw [HV.out]; rfl, ?_, by rw [HqD.out, HD.out], ?_⟩⟩, hB⟩
    · rw [HV.out]
      show nmF c' = _
      rw [Hn.out, HD.out]
    · rw [HV.out]
      exact Hz.out
end Go.Proofs.Ytfjgfaccfjdklaa
