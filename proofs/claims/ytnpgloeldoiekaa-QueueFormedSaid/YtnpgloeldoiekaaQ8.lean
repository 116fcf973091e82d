/- Q8: layer 7: Same of requests, wakes. -/
import Derived.Test.YtnpgloeldoiekaaQ7
namespace Go.Proofs.Ytnpgloeldoiekaa
open Go.RowKit Go.V
set_option maxHeartbeats 1000000 in
theorem same7_any (r : Rq) (u1 u2 : Value) (F G : Nat → Prop) (w : World) (h1 : Rd w F u1 (bys r.g)) (h2 : Rd w G u2 (bys r.g)) :
    Calls Try.prog 22 #[r.v u1, r.v u2] w fun e w' => e = .returned (.bool true) ∧ Below w.heap.size w w' := by
  obtain ⟨A1, p1, rfl⟩ := h1.shape
  obtain ⟨A2, p2, rfl⟩ := h2.shape
  unfold Rq.v
  have hal1 : Below w.heap.size w (w.alloc (.cells #[.int .i64 r.c, .int .i64 r.s, .int .i64 r.k, .int .i64 r.y, .int .i64 r.a, .int .i64 r.b, .slice A1 r.g.length p1] 32)) := (Below.refl _ _).alloc (Nat.le_refl _) _
  have x1 := Blk.new' w 32 [.int .i64 r.c, .int .i64 r.s, .int .i64 r.k, .int .i64 r.y, .int .i64 r.a, .int .i64 r.b, .slice A1 r.g.length p1]
  obtain ⟨w1, hw1⟩ : ∃ x, x = w.alloc (.cells #[.int .i64 r.c, .int .i64 r.s, .int .i64 r.k, .int .i64 r.y, .int .i64 r.a, .int .i64 r.b, .slice A1 r.g.length p1] 32) := ⟨_, rfl⟩
  have hsz : w1.heap.size = w.heap.size + 1 := by rw [hw1]; simp
  have x2 := Blk.new' w1 32 [.int .i64 r.c, .int .i64 r.s, .int .i64 r.k, .int .i64 r.y, .int .i64 r.a, .int .i64 r.b, .slice A2 r.g.length p2]
  have hal2 : Below w1.heap.size w1 (w1.alloc (.cells #[.int .i64 r.c, .int .i64 r.s, .int .i64 r.k, .int .i64 r.y, .int .i64 r.a, .int .i64 r.b, .slice A2 r.g.length p2] 32)) := (Below.refl _ _).alloc (Nat.le_refl _) _
  have x1 : Blk w1 w.heap.size 32 [.int .i64 r.c, .int .i64 r.s, .int .i64 r.k, .int .i64 r.y, .int .i64 r.a, .int .i64 r.b, .slice A1 r.g.length p1] := by rw [hw1]; exact x1
  have hB : Below w.heap.size w w1 := by rw [hw1]; exact hal1
  have x1 := x1.below hal2
  have hB2 := hB.trans (hal2.mono hB.size)
  have h1 := h1.below hB2
  have h2 := h2.below hB2
  rw [hsz] at x2
  clear hsz hal1 hal2 hB
  subst hw1
  have c0 := x1.cellAt 0 _ rfl
  have c1 := x1.cellAt 1 _ rfl
  have c2 := x1.cellAt 2 _ rfl
  have c3 := x1.cellAt 3 _ rfl
  have c4 := x1.cellAt 4 _ rfl
  have c5 := x1.cellAt 5 _ rfl
  have c6 := x1.cellAt 6 _ rfl
  have d0 := x2.cellAt 0 _ rfl
  have d1 := x2.cellAt 1 _ rfl
  have d2 := x2.cellAt 2 _ rfl
  have d3 := x2.cellAt 3 _ rfl
  have d4 := x2.cellAt 4 _ rfl
  have d5 := x2.cellAt 5 _ rfl
  have d6 := x2.cellAt 6 _ rfl
  go_enter Try.func22, Try.ntmps22
  go_wp2_with (fail)
  refine (same_b _ _ r.g r.g _ _ _ h1 h2).mono ?_
  rintro e w3 ⟨rfl, hB3⟩
  rw [decide_eq_true rfl]
  go_wp2
  go_ret
  exact ⟨rfl, hB2.trans (hB3.mono hB2.size)⟩
theorem bs6B : ∀ W : World, (Instr.buildSlice 30 6 #[(0, .int .u8 1), (1, .int .u8 2), (2, .int .u8 2), (3, .int .u8 3), (4, .int .u8 10), (5, .int .u8 0)]).run Try.prog W = .ok (.slice (some ⟨W.heap.size, 0, none⟩) 6 6) (W.alloc (.cells #[.int .u8 1, .int .u8 2, .int .u8 2, .int .u8 3, .int .u8 10, .int .u8 0] 5)) := fun _ => by kernel_rfl
end Go.Proofs.Ytnpgloeldoiekaa
