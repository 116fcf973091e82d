/- Q1: layer 7: requests; contracts of Right, formed, by the program and by the document. -/
import Derived.Test.YtnpgloeldoiekaaVA
namespace Go.V
open Go.RowKit
/-- a request: whose, its number, kind, key, A, B, its signature -/
structure Rq where
  c : Int
  s : Int
  k : Int
  y : Int
  a : Int
  b : Int
  g : List UInt8
def opV (k y a b : Int) : Value := .agg #[.int .i64 k, .int .i64 y, .int .i64 a, .int .i64 b]
def Rq.l (r : Rq) (u : Value) : List Value := [.int .i64 r.c, .int .i64 r.s, .int .i64 r.k, .int .i64 r.y, .int .i64 r.a, .int .i64 r.b, u]
def Rq.v (r : Rq) (u : Value) : Value := .agg #[.int .i64 r.c, .int .i64 r.s, .int .i64 r.k, .int .i64 r.y, .int .i64 r.a, .int .i64 r.b, u]
def rgtO (c k y a b : Int) : Bool := if c = 0 then decide (k = 6 ∧ y = 0 ∧ b = 0 ∧ 0 ≤ a ∧ a ≤ 65535) else decide (1 ≤ k ∧ k ≤ 5 ∧ 0 ≤ y ∧ y ≤ 15 ∧ ((k = 1 ∨ k = 5) → a = 0) ∧ (k = 4 ∨ b = 0))
def Rq.fm (r : Rq) : Bool := decide (0 ≤ r.c ∧ r.c ≤ 5 ∧ 1 ≤ r.s ∧ r.s ≤ 8 ∧ rgtO r.c r.k r.y r.a r.b = true ∧ r.g.length ≤ 1000)
end Go.V
namespace Go.Proofs.Ytnpgloeldoiekaa
open Go.RowKit Go.V
set_option maxHeartbeats 1000000 in
theorem right7_any (c k y a b : Int) (w : World) :
    Calls Try.prog 34 #[.int .i64 c, opV k y a b] w fun e w' => e = .returned (.bool (rgtO c k y a b)) ∧ Below w.heap.size w w' := by
  unfold opV
  have hb := Blk.new' w 29 [.int .i64 k, .int .i64 y, .int .i64 a, .int .i64 b]
  have hB : Below w.heap.size w (w.alloc (.cells #[.int .i64 k, .int .i64 y, .int .i64 a, .int .i64 b] 29)) := (Below.refl _ _).alloc (Nat.le_refl _) _
  have c0 := hb.cellAt 0 _ rfl
  have c1 := hb.cellAt 1 _ rfl
  have c2 := hb.cellAt 2 _ rfl
  have c3 := hb.cellAt 3 _ rfl
  obtain ⟨q, hq⟩ : ∃ q, q = rgtO c k y a b := ⟨_, rfl⟩
  rw [← hq]
  unfold rgtO at hq
  by_cases hc : c = 0
  · rw [if_pos hc] at hq
    have Hq := hid hq
    clear hq
    go_enter Try.func34, Try.ntmps34
    go_wp2
    all_goals (go_ret; exact ⟨by rw [Hq.out]; exact ret_b (by rw [Bool.eq_iff_iff]; simp; try omega), (Below.refl _ _).alloc (Nat.le_refl _) _⟩)
  · rw [if_neg hc] at hq
    have Hq := hid hq
    clear hq
    go_enter Try.func34, Try.ntmps34
    go_wp2
    all_goals (go_ret; refine ⟨?_, (Below.refl _ _).alloc (Nat.le_refl _) _⟩; rw [Hq.out]; refine ret_b ?_; clear Hq; simp only [beq_iff_eq, bne_iff_ne, ne_eq, beq_eq_false_iff_ne, bne_eq_false_iff_eq] at *; rw [Bool.eq_iff_iff]; simp; try omega)
set_option maxHeartbeats 1000000 in
theorem rright7_any (c k y a b : Int) (w : World) :
    Calls Try.prog 31 #[.int .i64 c, opV k y a b] w fun e w' => e = .returned (.bool (rgtO c k y a b)) ∧ Below w.heap.size w w' := by
  unfold opV
  have hb := Blk.new' w 29 [.int .i64 k, .int .i64 y, .int .i64 a, .int .i64 b]
  have hB : Below w.heap.size w (w.alloc (.cells #[.int .i64 k, .int .i64 y, .int .i64 a, .int .i64 b] 29)) := (Below.refl _ _).alloc (Nat.le_refl _) _
  have c0 := hb.cellAt 0 _ rfl
  have c1 := hb.cellAt 1 _ rfl
  have c2 := hb.cellAt 2 _ rfl
  have c3 := hb.cellAt 3 _ rfl
  obtain ⟨q, hq⟩ : ∃ q, q = rgtO c k y a b := ⟨_, rfl⟩
  rw [← hq]
  unfold rgtO at hq
  by_cases hc : c = 0
  · rw [if_pos hc] at hq
    have Hq := hid hq
    clear hq
    go_enter Try.func31, Try.ntmps31
    go_wp2
    all_goals (go_ret; exact ⟨by rw [Hq.out]; exact ret_b (by rw [Bool.eq_iff_iff]; simp; try omega), (Below.refl _ _).alloc (Nat.le_refl _) _⟩)
  · rw [if_neg hc] at hq
    have Hq := hid hq
    clear hq
    go_enter Try.func31, Try.ntmps31
    go_wp2
    all_goals (go_ret; refine ⟨?_, (Below.refl _ _).alloc (Nat.le_refl _) _⟩; rw [Hq.out]; refine ret_b ?_; clear Hq; simp only [bne_iff_ne, ne_eq, beq_eq_false_iff_ne, bne_eq_false_iff_eq] at *; rw [Bool.eq_iff_iff]; simp; try omega)
end Go.Proofs.Ytnpgloeldoiekaa
