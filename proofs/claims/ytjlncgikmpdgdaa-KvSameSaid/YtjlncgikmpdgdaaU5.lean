/- U5: layer 14: KvSame. -/
import Derived.Test.YtjlncgikmpdgdaaU3
import Derived.Test.YtjlncgikmpdgdaaR2
namespace Go.Proofs.Ytjlncgikmpdgdaa
open Go.RowKit Go.V
set_option maxRecDepth 100000 in
set_option maxHeartbeats 4000000 in
theorem kvSame_law (a b : List Cl) (w : World) (ha : ClIn a) (hb : ClIn b) :
    Calls Try.prog 6 #[.agg (cvs a).toArray, .agg (cvs b).toArray] w fun e w' => e = .returned (.bool true) ∧ Below w.heap.size w w' := by
  have La := hid (show (cvs a).length = 32 by rw [len_cvs, ha.len])
  have Lb := hid (show (cvs b).length = 32 by rw [len_cvs, hb.len])
  obtain ⟨p, hp⟩ : ∃ p, p = decide (putK (nmF a) = putK (nmF b)) := ⟨_, rfl⟩
  obtain ⟨q, hq⟩ : ∃ q, q = decide (nmF a = nmF b) := ⟨_, rfl⟩
  have hpq : p = q := by
    rw [hp, hq, Bool.eq_iff_iff, decide_eq_true_iff, decide_eq_true_iff]
    exact ⟨fun h => putK_inj (nmF_in ha).1 (nmF_in hb).1 (nmF_in ha).2 (nmF_in hb).2 h, fun h => by rw [h]⟩
  have Hp := hid hp
  have Hq := hid hq
  have hbb : (p == q) = true := by rw [hpq]; exact beq_self_eq_true q
  clear hp hq hpq
  have x2 := Blk.new' w 24 (cvs a)
  obtain ⟨w0, hw0⟩ : ∃ x, x = w.alloc (.cells (cvs a).toArray 24) := ⟨_, rfl⟩
  have hsz : w0.heap.size = w.heap.size + 1 := by rw [hw0]; simp
  rw [← hw0] at x2
  have hB0 : Below w.heap.size w w0 := by rw [hw0]; exact (Below.refl _ _).alloc (Nat.le_refl _) _
  have x3 := Blk.new' w0 24 (cvs b)
  have hal : Below w0.heap.size w0 (w0.alloc (.cells (cvs b).toArray 24)) := (Below.refl _ _).alloc (Nat.le_refl _) _
  have x2 := x2.below hal
  have hB := hB0.trans (hal.mono hB0.size)
  rw [hsz] at x3
  clear hsz hB0 hal
  subst hw0
  go_enter Try.func6, Try.ntmps6
  go_wp2_with (fail)
  refine (wakes14_any _).mono ?_
  rintro e w1 ⟨rfl, hB1⟩
  have x2 := x2.below hB1
  have x3 := x3.below hB1
  have hB := hB.trans (hB1.mono hB.size)
  obtain ⟨g2, hg2⟩ : ∃ g, g = w.heap.size := ⟨_, rfl⟩
  obtain ⟨g3, hg3⟩ : ∃ g, g = w.heap.size + 1 := ⟨_, rfl⟩
  rw [← hg3] at x3 ⊢
  rw [← hg2] at x2 ⊢
  clear hg2 hg3 hB1
  go_upto_region 3 with (fail)
  obtain ⟨wq, hwq⟩ : ∃ x, x = w1 := ⟨_, rfl⟩
  rw [← hwq] at x2 x3 hB ⊢
  clear hwq
  have X2 : Hid (∀ W, Ch nob wq W → W.rangeAt g2 0 (cvs a)) := fun W h => x2.chAt (fun h => h) h
  have X3 : Hid (∀ W, Ch nob wq W → W.rangeAt g3 0 (cvs b)) := fun W h => x3.chAt (fun h => h) h
  refine wp_region_noPanic ?_
  refine wp_region_held_drew (S := Ch nob wq) (by kernel_rfl) ((Ch.refl _ _).drew) (fun hHeld => ?_)
  refine wpAnyH_take (i := 0) (oi := ⟨some 7, .load 24 (.tmp 2), _, _, _, none⟩) (v := _) rfl (by kernel_rfl) (by kernel_rfl) (by kernel_rfl) (fun _ _ _ h => h) (yieldsIf_load_mid (by rfl) 24 (.tmp 2) (by rfl) _ (0) (by rfl) _ _ (fun _ hs => X2.out _ hs) Try.underlying24 rfl (by rw [La.out]; exact sizeCs)) (by assumption) ?_
  try simp only [Act.put, List.setIfInBounds_toArray, List.set_cons_zero, List.set_cons_succ]
  refine wpAnyH_take (i := 2) (oi := ⟨some 9, .load 24 (.tmp 3), _, _, _, none⟩) (v := _) rfl (by kernel_rfl) (by kernel_rfl) (by kernel_rfl) (fun _ _ _ h => h) (yieldsIf_load_mid (by rfl) 24 (.tmp 3) (by rfl) _ (0) (by rfl) _ _ (fun _ hs => X3.out _ hs) Try.underlying24 rfl (by rw [Lb.out]; exact sizeCs)) (by assumption) ?_
  try simp only [Act.put, List.setIfInBounds_toArray, List.set_cons_zero, List.set_cons_succ]
  refine wpAnyH_take (i := 5) (oi := ⟨some 12, .load 24 (.tmp 2), _, _, _, none⟩) (v := _) rfl (by kernel_rfl) (by kernel_rfl) (by kernel_rfl) (fun _ _ _ h => h) (yieldsIf_load_mid (by rfl) 24 (.tmp 2) (by rfl) _ (0) (by rfl) _ _ (fun _ hs => X2.out _ hs) Try.underlying24 rfl (by rw [La.out]; exact sizeCs)) (by assumption) ?_
  try simp only [Act.put, List.setIfInBounds_toArray, List.set_cons_zero, List.set_cons_succ]
  refine wpAnyH_take (i := 6) (oi := ⟨some 13, .load 24 (.tmp 3), _, _, _, none⟩) (v := _) rfl (by kernel_rfl) (by kernel_rfl) (by kernel_rfl) (fun _ _ _ h => h) (yieldsIf_load_mid (by rfl) 24 (.tmp 3) (by rfl) _ (0) (by rfl) _ _ (fun _ hs => X3.out _ hs) Try.underlying24 rfl (by rw [Lb.out]; exact sizeCs)) (by assumption) ?_
  try simp only [Act.put, List.setIfInBounds_toArray, List.set_cons_zero, List.set_cons_succ]
  refine wpAnyH_ready (rs := [1]) (by kernel_rfl) (by simp) ?_
  refine AllReadyH.cons (o := ⟨some 8, _, _, _, _, none⟩) rfl (fun K hK => ?_) AllReadyH.nil
  go_simp
  refine (kvput14_any a _ ha).mono ?_
  rintro e' w4 ⟨v4, rfl, ho4, hB4⟩
  obtain ⟨A4, c4, rfl⟩ := own_shape ho4
  refine hK.out _ _ (hHeld.belowR hB4) (fun hHeld => ?_)
  clear hK K
  try simp only [Act.put, List.setIfInBounds_toArray, List.set_cons_zero, List.set_cons_succ]
  refine wpAnyH_ready (rs := [3]) (by kernel_rfl) (by simp) ?_
  refine AllReadyH.cons (o := ⟨some 10, _, _, _, _, none⟩) rfl (fun K hK => ?_) AllReadyH.nil
  go_simp
  refine (kvput14_any b _ hb).mono ?_
  rintro e' w5 ⟨v5, rfl, ho5, hB5⟩
  obtain ⟨A5, c5, rfl⟩ := own_shape ho5
  have hr4 := Rd.of_own (own_bel ho4 hB5)
  have hr5 := Rd.of_own ho5
  refine hK.out _ _ (hHeld.belowR hB5) (fun hHeld => ?_)
  clear hK K
  try simp only [Act.put, List.setIfInBounds_toArray, List.set_cons_zero, List.set_cons_succ]
  refine wpAnyH_ready (rs := [4]) (by kernel_rfl) (by simp) ?_
  refine AllReadyH.cons (o := ⟨some 11, _, _, _, _, none⟩) rfl (fun K hK => ?_) AllReadyH.nil
  go_simp
  refine (same_b _ _ (putK (nmF a)) (putK (nmF b)) _ _ _ hr4 hr5).mono ?_
  rintro e' w6 ⟨rfl, hB6⟩
  rw [← Hp.out]
  refine hK.out _ _ (hHeld.belowR hB6) (fun hHeld => ?_)
  clear hK K
  try simp only [Act.put, List.setIfInBounds_toArray, List.set_cons_zero, List.set_cons_succ]
  refine wpAnyH_ready (rs := [7]) (by kernel_rfl) (by simp) ?_
  refine AllReadyH.cons (o := ⟨some 14, _, _, _, _, none⟩) rfl (fun K hK => ?_) AllReadyH.nil
  go_simp
  refine (rsame14_any a b _ ha.len hb.len).mono ?_
  rintro e' w7 ⟨rfl, hB7⟩
  rw [← Hq.out]
  refine hK.out _ _ (hHeld.belowR hB7) (fun hHeld => ?_)
  clear hK K
  try simp only [Act.put, List.setIfInBounds_toArray, List.set_cons_zero, List.set_cons_succ]
  refine wpAnyH_take (i := 8) (oi := ⟨some 15, _, _, _, _, none⟩) (v := ?_) rfl (by kernel_rfl) (by kernel_rfl) (by kernel_rfl) (fun _ _ _ h => h) (Or.inl ⟨by rfl, ?_⟩) (by assumption) ?_
  rotate_left
  · intro w hSw; go_simp; try with_reducible rfl
  try simp only [Act.put, List.setIfInBounds_toArray, List.set_cons_zero, List.set_cons_succ]
  refine wpAnyH_take (i := 9) (oi := ⟨some 4, _, _, _, _, none⟩) (v := ?_) rfl (by kernel_rfl) (by kernel_rfl) (by kernel_rfl) (fun _ _ _ h => h) (Or.inl ⟨by rfl, ?_⟩) (by assumption) ?_
  rotate_left
  · intro w hSw; go_simp; try with_reducible rfl
  try simp only [Act.put, List.setIfInBounds_toArray, List.set_cons_zero, List.set_cons_succ]
  refine wpAnyH_done (by kernel_rfl) ?_ _
  refine NoPanic.normal ?_
  go_wp2
  go_ret
  exact ⟨rfl, hB.trans (hHeld.below.mono hB.size)⟩
end Go.Proofs.Ytjlncgikmpdgdaa
