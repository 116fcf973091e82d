/- A9: layer 15: ExecsBytes. -/
import Derived.Test.YtfjgfaccfjdklaaDoorAB
import Derived.Test.YtfjgfaccfjdklaaDoorA4
import Derived.Test.YtfjgfaccfjdklaaDoorAE
import Derived.Test.YtfjgfaccfjdklaaDoorSA
import Derived.Stop.BytesEq
namespace Go.Proofs.YtfjgfaccfjdklaaDoor
open Go.RowKit Go.V
theorem eqH15 (p : List UInt8) (hp : p.length = 32) : ∀ W : World, (Op.equalIn 10000 40 (.agg (bvs p).toArray) (.agg (bvs p).toArray)).run Tryd.prog W = .ok true W := fun W => by
  have := run_equalIn_bytes (P := Tryd.prog) W 9998 40 5 32 und25 Tryd.underlying5 Tryd.sizeOf5 p p hp hp
  rw [beq_self_eq_true] at this
  exact this
theorem len_putW15 {W : Wo} (h : WoIn W) : (putW W.e).length ≤ 1000 := by
  have h1 := len_putK W.e.c (by show (nmF W.c).length = 16; rw [nm_len, h.c.len])
  have h2 := len_rpsB W.e.a
  have h3 := len_putV W.e.v.n W.e.v.m
  have h4 := len_putV W.e.u.n W.e.u.m
  have h5 := len_txB (putV W.e.v.n W.e.v.m)
  have h6 := len_txB (putV W.e.u.n W.e.u.m)
  have h7 := len_txB (putK W.e.c)
  have h8 : W.e.a.length = 6 := h.a.1
  unfold putW
  simp only [List.length_append, len_fix2]
  omega
set_option maxRecDepth 100000 in
set_option maxHeartbeats 4000000 in
theorem rdig15_any (W : Wo) (w : World) (hW : WoIn W) :
    Calls Tryd.prog 9 #[.agg W.l.toArray] w fun e w' => e = .returned (.agg (bvs (shaF (putW W.e))).toArray) ∧ Below w.heap.size w w' := by
  have hp := hid (fun X => rput15_any W X hW)
  have hl := len_putW15 hW
  have hwl := wol hW
  obtain ⟨lw, hlw⟩ : ∃ q, q = W.l := ⟨_, rfl⟩
  rw [← hlw] at hwl hp ⊢
  have HL := hid hwl.len
  obtain ⟨B, hBy⟩ : ∃ B, B = putW W.e := ⟨_, rfl⟩
  rw [← hBy] at hp hl ⊢
  clear hlw hwl hBy hW
  obtain ⟨w0, hw0, b1, b2, hB⟩ := alloc2 w 34 40 lw (zs8 32)
  go_enter Tryd.func9, Tryd.ntmps9
  go_wp2_with (first | (refine wp_new 40 rfl rfl zero25 ?_; refine wp_stop ?_))
  rw [← hw0]
  clear hw0
  obtain ⟨g1, hg1⟩ : ∃ g, g = w.heap.size := ⟨_, rfl⟩
  obtain ⟨g2, hg2⟩ : ∃ g, g = w.heap.size + 1 := ⟨_, rfl⟩
  rw [← hg2] at b2 ⊢
  rw [← hg1] at b1 ⊢
  have hg1w : w.heap.size ≤ g2 := by omega
  clear hg1 hg2
  refine wp_go ?_
  go_wp2_with (refine wp_ld 34 (.tmp 1) rfl rfl rfl b1.whole Tryd.underlying34 rfl (by rw [HL.out]; exact sizeW15) ?_)
  refine (hp.out _).mono ?_
  rintro e w1 ⟨v1, rfl, ho, hB1⟩
  have b2 := b2.below hB1
  have hB := hB.trans (hB1.mono hB.size)
  obtain ⟨A, c, rfl⟩ := own_shape ho
  go_wp2_with (fail)
  refine (rsum_any _ B _ _ (Rd.of_own ho) (by omega)).mono ?_
  rintro e w2 ⟨rfl, hB2⟩
  have b2 := b2.below hB2
  have hB := hB.trans (hB2.mono hB.size)
  obtain ⟨H, hH⟩ : ∃ H, H = shaF B := ⟨_, rfl⟩
  have lH : Hid (H.length = 32) := by show _ = _; rw [hH]; exact len_sha _
  rw [← hH]
  have HH := hid hH
  clear hH
  go_wp2_with (refine wp_st 40 (.tmp 2) (.tmp 5) rfl rfl rfl (f := 0) rfl (l := bvs H) rfl b2 (by simp [zs8, len_bvs, lH.out]) (by rw [len_bvs, lH.out]; exact size25) (oneCell_bvs _) ?_; intro w3 k3 G3)
  rw [set25 _ lH.out] at k3
  have hB := hB.grown G3 hB.size (by intro k hk; injection hk with hk; omega)
  refine ret_cell rfl rfl k3.whole und25 rfl (by rw [len_bvs, lH.out]; exact size25) rfl ?_
  exact ⟨by rw [HH.out], hB⟩
set_option maxRecDepth 100000 in
set_option maxHeartbeats 8000000 in
theorem execsBytes_law (W : Wo) (w : World) (hKS : KS w) (hW : WoIn W) :
    Calls Tryd.prog 3 #[.agg W.l.toArray] w fun e w' => e = .returned (.bool true) ∧ Below w.heap.size w w' := by
  have hput := hid (fun X => eput15_any W X hW)
  have hrput := hid (fun X => rput15_any W X hW)
  have hdig := hid (fun X hK => edig15_any W X hK hW)
  have hrdig := hid (fun X => rdig15_any W X hW)
  have hget := hid (fun v F X hv => eget15_any W v F X hW hv)
  have hfit := hid (fun X => rfits15_any W X hW)
  have heq := eqWo W hW
  have hl := len_putW15 hW
  have hwl := wol hW
  obtain ⟨lw, hlw⟩ : ∃ q, q = W.l := ⟨_, rfl⟩
  rw [← hlw] at hwl hput hrput hdig hrdig hfit heq ⊢
  have HL := hid hwl.len
  obtain ⟨B, hBy⟩ : ∃ B, B = putW W.e := ⟨_, rfl⟩
  rw [← hBy] at hput hrput hdig hrdig hget hl
  have Hlw := hid hlw
  clear hlw hwl hBy
  have b1 := Blk.new' w 34 lw
  have hB : Below w.heap.size w (w.alloc (.cells lw.toArray 34)) := (Below.refl _ _).alloc (Nat.le_refl _) _
  have hKS := hKS.below hB
  go_enter Tryd.func3, Tryd.ntmps3
  go_wp2_with (fail)
  refine (wakes15_any _).mono ?_
  rintro e w1 ⟨rfl, hB1⟩
  have b1 := b1.below hB1
  have hKS := hKS.below hB1
  have hB := hB.trans (hB1.mono hB.size)
  obtain ⟨g1, hg1⟩ : ∃ g, g = w.heap.size := ⟨_, rfl⟩
  rw [← hg1] at b1 ⊢
  have hg1w : w.heap.size ≤ g1 := by omega
  clear hg1 hB1
  go_wp2_with (refine wp_ld 34 (.tmp 1) rfl rfl rfl b1.whole Tryd.underlying34 rfl (by rw [HL.out]; exact sizeW15) ?_)
  refine (hput.out _).mono ?_
  rintro e w2 ⟨v2, rfl, ho2, hB2⟩
  have b1 := b1.below hB2
  have hKS := hKS.below hB2
  have hB := hB.trans (hB2.mono hB.size)
  obtain ⟨A2, c2, rfl⟩ := own_shape ho2
  have r2 := Rd.of_own ho2
  have H := hid (len_sha B)
  obtain ⟨D, hD⟩ : ∃ D, D = shaF B := ⟨_, rfl⟩
  rw [← hD] at hdig hrdig H
  have heh := eqH15 D H.out
  have C1 := hid (fun Y (h : Ch nob w2 Y) => (b1.ch h (fun e => e)).whole)
  clear hB2 ho2 hD
  go_upto_region 4 with (fail)
  refine wp_region_noPanic ?_
  refine wp_region_held_drew (S := Ch nob w2) (by kernel_rfl) ((Ch.refl _ _).drew) (fun hHeld => ?_)
  refine wpAnyH_take (i := 0) (oi := ⟨some 10, _, _, _, _, none⟩) (v := ?_) rfl (by kernel_rfl) (by kernel_rfl) (by kernel_rfl) (fun _ _ _ h => h) (Or.inl ⟨by rfl, ?_⟩) (by assumption) ?_
  rotate_left
  · intro w hSw; go_simp; try with_reducible rfl
  try simp only [Act.put, List.setIfInBounds_toArray, List.set_cons_zero, List.set_cons_succ]
  refine wpAnyH_take (i := 1) (oi := ⟨some 11, .load 34 (.tmp 1), _, _, _, none⟩) (v := _) rfl (by kernel_rfl) (by kernel_rfl) (by kernel_rfl) (fun _ _ _ h => h) (yieldsIf_load_mid (by rfl) 34 (.tmp 1) (by rfl) _ (0) (by rfl) _ _ (fun _ hs => C1.out _ hs) Tryd.underlying34 rfl (by rw [HL.out]; exact sizeW15)) (by assumption) ?_
  try simp only [Act.put, List.setIfInBounds_toArray, List.set_cons_zero, List.set_cons_succ]
  refine wpAnyH_ready (rs := [2]) (by kernel_rfl) (by simp) ?_
  refine AllReadyH.cons (o := ⟨some 12, _, _, _, _, none⟩) rfl (fun K hK => ?_) AllReadyH.nil
  go_simp
  refine (hrput.out _).mono ?_
  rintro e' w6 ⟨v6, rfl, ho6, hB6⟩
  refine hK.out _ _ (hHeld.belowR hB6) (fun hHeld => ?_)
  clear hK K
  try simp only [Act.put, List.setIfInBounds_toArray, List.set_cons_zero, List.set_cons_succ]
  refine wpAnyH_ready (rs := [3]) (by kernel_rfl) (by simp) ?_
  refine AllReadyH.cons (o := ⟨some 13, _, _, _, _, none⟩) rfl (fun K hK => ?_) AllReadyH.nil
  go_simp
  refine (same_any _ _ _ _ _ _ _ (r2.below (hHeld.below)) (Rd.of_own ho6)).mono ?_
  rintro e' w7 ⟨rfl, n7, rfl⟩
  rw [show decide (B = B) = true from decide_eq_true rfl]
  refine hK.out _ _ (hHeld.drewN _) (fun hHeld => ?_)
  clear hK K
  try simp only [Act.put, List.setIfInBounds_toArray, List.set_cons_zero, List.set_cons_succ]
  refine wpAnyH_take (i := 4) (oi := ⟨some 14, _, _, _, _, none⟩) (v := ?_) rfl (by kernel_rfl) (by kernel_rfl) (by kernel_rfl) (fun _ _ _ h => h) (Or.inl ⟨by rfl, ?_⟩) (by assumption) ?_
  rotate_left
  · intro w hSw; go_simp; try with_reducible rfl
  try simp only [Act.put, List.setIfInBounds_toArray, List.set_cons_zero, List.set_cons_succ]
  refine wpAnyH_take (i := 5) (oi := ⟨some 15, _, _, _, _, none⟩) (v := ?_) rfl (by kernel_rfl) (by kernel_rfl) (by kernel_rfl) (fun _ _ _ h => h) (Or.inl ⟨by rfl, ?_⟩) (by assumption) ?_
  rotate_left
  · intro w hSw; go_simp; try with_reducible rfl
  try simp only [Act.put, List.setIfInBounds_toArray, List.set_cons_zero, List.set_cons_succ]
  refine wpAnyH_take (i := 6) (oi := ⟨some 16, .load 34 (.tmp 1), _, _, _, some (5, false)⟩) (v := _) rfl (by kernel_rfl) (by kernel_rfl) (by kernel_rfl) (fun _ _ _ h => h) (yieldsIf_load_mid (by rfl) 34 (.tmp 1) (by rfl) _ (0) (by rfl) _ _ (fun _ hs => C1.out _ hs) Tryd.underlying34 rfl (by rw [HL.out]; exact sizeW15)) (by assumption) ?_
  try simp only [Act.put, List.setIfInBounds_toArray, List.set_cons_zero, List.set_cons_succ]
  refine wpAnyH_take (i := 8) (oi := ⟨some 18, .load 34 (.tmp 1), _, _, _, some (5, false)⟩) (v := _) rfl (by kernel_rfl) (by kernel_rfl) (by kernel_rfl) (fun _ _ _ h => h) (yieldsIf_load_mid (by rfl) 34 (.tmp 1) (by rfl) _ (0) (by rfl) _ _ (fun _ hs => C1.out _ hs) Tryd.underlying34 rfl (by rw [HL.out]; exact sizeW15)) (by assumption) ?_
  try simp only [Act.put, List.setIfInBounds_toArray, List.set_cons_zero, List.set_cons_succ]
  refine wpAnyH_ready (rs := [7]) (by kernel_rfl) (by simp) ?_
  refine AllReadyH.cons (o := ⟨some 17, _, _, _, _, some (5, false)⟩) rfl (fun K hK => ?_) AllReadyH.nil
  go_simp
  refine (hdig.out _ (hKS.below hHeld.below)).mono ?_
  rintro e' w8 ⟨rfl, hB8⟩
  refine hK.out _ _ (hHeld.belowR hB8) (fun hHeld => ?_)
  clear hK K
  try simp only [Act.put, List.setIfInBounds_toArray, List.set_cons_zero, List.set_cons_succ]
  refine wpAnyH_ready (rs := [9]) (by kernel_rfl) (by simp) ?_
  refine AllReadyH.cons (o := ⟨some 19, _, _, _, _, some (5, false)⟩) rfl (fun K hK => ?_) AllReadyH.nil
  go_simp
  refine (hrdig.out _).mono ?_
  rintro e' w9 ⟨rfl, hB9⟩
  refine hK.out _ _ (hHeld.belowR hB9) (fun hHeld => ?_)
  clear hK K
  try simp only [Act.put, List.setIfInBounds_toArray, List.set_cons_zero, List.set_cons_succ]
  refine wpAnyH_take (i := 10) (oi := ⟨some 20, _, _, _, _, some (5, false)⟩) (v := ?_) rfl (by kernel_rfl) (by kernel_rfl) (by kernel_rfl) (fun _ _ _ h => h) (Or.inl ⟨by rfl, ?_⟩) (by assumption) ?_
  rotate_left
  · intro w hSw; have he := heh w; go_simp; try with_reducible rfl
  try simp only [Act.put, List.setIfInBounds_toArray, List.set_cons_zero, List.set_cons_succ]
  refine wpAnyH_take (i := 11) (oi := ⟨some 21, _, _, _, _, none⟩) (v := ?_) rfl (by kernel_rfl) (by kernel_rfl) (by kernel_rfl) (fun _ _ _ h => h) (Or.inl ⟨by rfl, ?_⟩) (by assumption) ?_
  rotate_left
  · intro w hSw; go_simp; try with_reducible rfl
  try simp only [Act.put, List.setIfInBounds_toArray, List.set_cons_zero, List.set_cons_succ]
  refine wpAnyH_done (by kernel_rfl) ?_ _
  refine NoPanic.normal ?_
  have b1 := b1.ch hHeld (fun e => e)
  have r2 := r2.below hHeld.below
  have hB := Ch.below_of hB hHeld (fun k hk => hk.elim) hB.size
  clear C1 hHeld hKS
  go_wp2_with (fail)
  refine (hget.out _ _ _ r2).mono ?_
  rintro e w3 ⟨W3, c3, rfl, hW3, hf3, hB3⟩
  have b1 := b1.below hB3
  have hB := hB.trans (hB3.mono hB.size)
  have hwl3 := wol hW3
  obtain ⟨l3, hl3⟩ : ∃ q, q = W3.l := ⟨_, rfl⟩
  rw [← hl3] at hwl3 ⊢
  have HW3 := hid hwl3
  have Hl3 := hid hl3
  have Hf3 := hid hf3
  clear hwl3 hl3 hf3 r2
  go_wp2_with (first | (refine wp_newst 34 4 (.tmp 25) rfl rfl rfl rfl rfl rfl zeroWo (l := l3) rfl (by rw [HW3.out.len]; exact len_zWo) (by rw [HW3.out.len]; exact sizeW15) HW3.out.one (by simp) ?_; intro w4 b4 hB4 hs4; refine wp_stop ?_))
  obtain ⟨g4, hg4⟩ : ∃ g, g = w3.heap.size := ⟨_, rfl⟩
  rw [← hg4] at b4 ⊢
  have b1 := b1.below hB4
  have hB := hB.trans (hB4.mono hB.size)
  clear hg4 hs4 hB4 hB3
  refine wp_go ?_
  go_wp2_with (refine wp_ld 34 (.tmp 1) rfl rfl rfl b1.whole Tryd.underlying34 rfl (by rw [HL.out]; exact sizeW15) ?_)
  refine (hfit.out _).mono ?_
  rintro e w5 ⟨rfl, hB5⟩
  have b1 := b1.below hB5
  have b4 := b4.below hB5
  have hB := hB.trans (hB5.mono hB.size)
  by_cases hF : Fit W
  · obtain ⟨e1, e2⟩ := Hf3.out hF
    have e3 : l3 = lw := by rw [Hl3.out, Hlw.out, e1]
    subst e2
    rw [e3] at b4
    have hd : decide (Fit W) = true := decide_eq_true hF
    rw [hd]
    clear e1 e3 hd hF Hf3 Hl3 Hlw
    go_wp2_with (first | refine wp_ldg 34 (.tmp 4) (by rfl) rfl rfl b4.whole Tryd.underlying34 rfl (by rw [HL.out]; exact sizeW15) ?_ | refine wp_ldg 34 (.tmp 1) (by rfl) rfl rfl b1.whole Tryd.underlying34 rfl (by rw [HL.out]; exact sizeW15) ?_)
    go_ret
    exact ⟨rfl, hB⟩
  · have hd : decide (Fit W) = false := decide_eq_false hF
    rw [hd]
    clear hd hF Hf3
    go_wp2
    go_ret
    exact ⟨rfl, hB⟩
end Go.Proofs.YtfjgfaccfjdklaaDoor
