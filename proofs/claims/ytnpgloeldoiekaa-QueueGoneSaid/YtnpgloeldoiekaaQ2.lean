/- Q2: layer 7: contracts of formed, by the program and by the document. -/
import Derived.Test.YtnpgloeldoiekaaQ1
namespace Go.Proofs.Ytnpgloeldoiekaa
open Go.RowKit Go.V
theorem fm_false {r : Rq} (h : r.c < 0 ∨ 6 ≤ r.c ∨ r.s < 1 ∨ 9 ≤ r.s) : r.fm = false := by
  unfold Rq.fm
  rw [decide_eq_false_iff_not]
  omega
set_option maxHeartbeats 1000000 in
theorem formed_any (r : Rq) (u : Value) (F : Nat → Prop) (w : World) (hu : Rd w F u (bys r.g)) :
    Calls Try.prog 32 #[r.v u] w fun e w' => e = .returned (.bool r.fm) ∧ Below w.heap.size w w' := by
  obtain ⟨A, cp, rfl⟩ := hu.shape
  have hrt := (right7_any r.c r.k r.y r.a r.b ·)
  have hff := fm_false (r := r)
  have hf : r.fm = decide (0 ≤ r.c ∧ r.c ≤ 5 ∧ 1 ≤ r.s ∧ r.s ≤ 8 ∧ rgtO r.c r.k r.y r.a r.b = true ∧ r.g.length ≤ 1000) := rfl
  unfold opV at hrt
  unfold Rq.v
  obtain ⟨c, s, k, y, a, b, g⟩ := r
  simp only at hrt hff hf ⊢
  obtain ⟨q, hq⟩ : ∃ q, q = Rq.fm ⟨c, s, k, y, a, b, g⟩ := ⟨_, rfl⟩
  obtain ⟨t, ht⟩ : ∃ t, t = rgtO c k y a b := ⟨_, rfl⟩
  rw [← hq] at hf hff ⊢
  rw [← ht] at hrt hf
  clear hq ht
  have hb := Blk.new' w 32 [.int .i64 c, .int .i64 s, .int .i64 k, .int .i64 y, .int .i64 a, .int .i64 b, .slice A g.length cp]
  have hB : Below w.heap.size w (w.alloc (.cells #[.int .i64 c, .int .i64 s, .int .i64 k, .int .i64 y, .int .i64 a, .int .i64 b, .slice A g.length cp] 32)) := (Below.refl _ _).alloc (Nat.le_refl _) _
  have c0 := hb.cellAt 0 _ rfl
  have c1 := hb.cellAt 1 _ rfl
  have c2 := hb.cellAt 2 _ rfl
  have c3 := hb.cellAt 3 _ rfl
  have c4 := hb.cellAt 4 _ rfl
  have c5 := hb.cellAt 5 _ rfl
  have c6 := hb.cellAt 6 _ rfl
  have Hf := hid hf
  have Hff := hid hff
  clear hf hff
  go_enter Try.func32, Try.ntmps32
  go_wp2_with (fail)
  rotate_left
  all_goals try (go_ret; exact ⟨by rw [Hff.out (by omega)]; rfl, hB⟩)
  refine (hrt _).mono ?_
  rintro e w1 ⟨rfl, hB1⟩
  have hb1 := hb.below hB1
  have hB1' := hB.trans (hB1.mono hB.size)
  clear c0 c1 c2 c3 c4 c5 c6 hb hrt
  have c6 := hb1.cellAt 6 _ rfl
  cases t with
  | false =>
    go_wp2
    go_ret
    exact ⟨by rw [Hf.out]; exact ret_b (by simp), hB1'⟩
  | true =>
    go_wp2
    go_ret
    exact ⟨by rw [Hf.out]; exact ret_b (by rw [Bool.eq_iff_iff]; simp; try omega), hB1'⟩
set_option maxHeartbeats 1000000 in
theorem rformed_any (r : Rq) (u : Value) (F : Nat → Prop) (w : World) (hu : Rd w F u (bys r.g)) :
    Calls Try.prog 26 #[r.v u] w fun e w' => e = .returned (.bool r.fm) ∧ Below w.heap.size w w' := by
  obtain ⟨A, cp, rfl⟩ := hu.shape
  have hrt := (rright7_any r.c r.k r.y r.a r.b ·)
  have hff := fm_false (r := r)
  have hf : r.fm = decide (0 ≤ r.c ∧ r.c ≤ 5 ∧ 1 ≤ r.s ∧ r.s ≤ 8 ∧ rgtO r.c r.k r.y r.a r.b = true ∧ r.g.length ≤ 1000) := rfl
  unfold opV at hrt
  unfold Rq.v
  obtain ⟨c, s, k, y, a, b, g⟩ := r
  simp only at hrt hff hf ⊢
  obtain ⟨q, hq⟩ : ∃ q, q = Rq.fm ⟨c, s, k, y, a, b, g⟩ := ⟨_, rfl⟩
  obtain ⟨t, ht⟩ : ∃ t, t = rgtO c k y a b := ⟨_, rfl⟩
  rw [← hq] at hf hff ⊢
  rw [← ht] at hrt hf
  clear hq ht
  have hb := Blk.new' w 32 [.int .i64 c, .int .i64 s, .int .i64 k, .int .i64 y, .int .i64 a, .int .i64 b, .slice A g.length cp]
  have hB : Below w.heap.size w (w.alloc (.cells #[.int .i64 c, .int .i64 s, .int .i64 k, .int .i64 y, .int .i64 a, .int .i64 b, .slice A g.length cp] 32)) := (Below.refl _ _).alloc (Nat.le_refl _) _
  have c0 := hb.cellAt 0 _ rfl
  have c1 := hb.cellAt 1 _ rfl
  have c2 := hb.cellAt 2 _ rfl
  have c3 := hb.cellAt 3 _ rfl
  have c4 := hb.cellAt 4 _ rfl
  have c5 := hb.cellAt 5 _ rfl
  have c6 := hb.cellAt 6 _ rfl
  have Hf := hid hf
  have Hff := hid hff
  clear hf hff
  go_enter Try.func26, Try.ntmps26
  go_wp2_with (fail)
  rotate_left
  all_goals try (go_ret; exact ⟨by rw [Hff.out (by omega)]; rfl, hB⟩)
  refine (hrt _).mono ?_
  rintro e w1 ⟨rfl, hB1⟩
  have hb1 := hb.below hB1
  have hB1' := hB.trans (hB1.mono hB.size)
  clear c0 c1 c2 c3 c4 c5 c6 hb hrt
  have c6 := hb1.cellAt 6 _ rfl
  cases t with
  | false =>
    go_wp2
    go_ret
    exact ⟨by rw [Hf.out]; exact ret_b (by simp), hB1'⟩
  | true =>
    go_wp2
    go_ret
    exact ⟨by rw [Hf.out]; exact ret_b (by rw [Bool.eq_iff_iff]; simp; try omega), hB1'⟩
end Go.Proofs.Ytnpgloeldoiekaa
