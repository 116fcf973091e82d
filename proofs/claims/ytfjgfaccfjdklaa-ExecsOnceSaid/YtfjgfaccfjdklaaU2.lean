/- U2: layer 14: contract of the document's Do. -/
import Derived.Test.YtfjgfaccfjdklaaU1
import Derived.Test.YtfjgfaccfjdklaaUV
namespace Go.V
open Go.RowKit
def rvs (r : Bool × Int) : List Value := [.bool r.1, .int .i64 r.2]
theorem one_rvs (r : Bool × Int) : ∀ v ∈ rvs r, v.oneCell' = true := by
  intro v hv
  simp only [rvs, List.mem_cons, List.not_mem_nil, or_false] at hv
  rcases hv with rfl | rfl <;> rfl
theorem one_okl (o : Ok) : ∀ v ∈ o.l, v.oneCell' = true := by
  intro v hv
  simp only [Ok.l, List.mem_cons, List.not_mem_nil, or_false] at hv
  rcases hv with rfl | rfl | rfl | rfl <;> rfl
def zCs : List Value := cvs (List.replicate 16 zC)
theorem len_zCs : zCs.length = 32 := by decide
theorem alloc4 (w : World) (tA tB tC tD : TypeId) (lA lB lC lD : List Value) : ∃ W, W = ((((w.alloc (.cells lA.toArray tA)).alloc (.cells lB.toArray tB)).alloc (.cells lC.toArray tC)).alloc (.cells lD.toArray tD)) ∧ Blk W w.heap.size tA lA ∧ Blk W (w.heap.size + 1) tB lB ∧ Blk W (w.heap.size + 2) tC lC ∧ Blk W (w.heap.size + 3) tD lD ∧ Below w.heap.size w W := by
  refine ⟨_, rfl, ?_⟩
  have a1 := Blk.new' w tA lA
  have B1 : Below w.heap.size w (w.alloc (.cells lA.toArray tA)) := (Below.refl _ _).alloc (Nat.le_refl _) _
  obtain ⟨w1, h1⟩ : ∃ x, x = w.alloc (.cells lA.toArray tA) := ⟨_, rfl⟩
  have s1 : w1.heap.size = w.heap.size + 1 := by rw [h1]; simp
  rw [← h1] at a1 B1 ⊢
  clear h1
  have a2 := Blk.new' w1 tB lB
  have B2 : Below w1.heap.size w1 (w1.alloc (.cells lB.toArray tB)) := (Below.refl _ _).alloc (Nat.le_refl _) _
  obtain ⟨w2, h2⟩ : ∃ x, x = w1.alloc (.cells lB.toArray tB) := ⟨_, rfl⟩
  have s2 : w2.heap.size = w1.heap.size + 1 := by rw [h2]; simp
  rw [← h2] at a2 B2 ⊢
  clear h2
  have a3 := Blk.new' w2 tC lC
  have B3 : Below w2.heap.size w2 (w2.alloc (.cells lC.toArray tC)) := (Below.refl _ _).alloc (Nat.le_refl _) _
  obtain ⟨w3, h3⟩ : ∃ x, x = w2.alloc (.cells lC.toArray tC) := ⟨_, rfl⟩
  have s3 : w3.heap.size = w2.heap.size + 1 := by rw [h3]; simp
  rw [← h3] at a3 B3 ⊢
  clear h3
  have a4 := Blk.new' w3 tD lD
  have B4 : Below w3.heap.size w3 (w3.alloc (.cells lD.toArray tD)) := (Below.refl _ _).alloc (Nat.le_refl _) _
  have e2 : w1.heap.size = w.heap.size + 1 := s1
  have e3 : w2.heap.size = w.heap.size + 2 := by omega
  have e4 : w3.heap.size = w.heap.size + 3 := by omega
  rw [← e2, ← e3, ← e4]
  exact ⟨((a1.below B2).below B3).below B4, (a2.below B3).below B4, a3.below B4, a4, ((B1.trans (B2.mono (by omega))).trans (B3.mono (by omega))).trans (B4.mono (by omega))⟩
theorem blk_all {w : World} {g : Nat} {t : TypeId} {cs l : List Value} (h : Blk w g t (cs.take 0 ++ l ++ cs.drop (0 + l.length))) (hl : cs.length ≤ l.length) : Blk w g t l := by
  rw [List.take_zero, List.nil_append, List.drop_eq_nil_of_le (by omega), List.append_nil] at h
  exact h
theorem set_same {s : List (Option Int)} {i : Nat} (h : i < s.length) : s.set i (s.getD i none) = s := by
  apply List.ext_getElem?
  intro j
  rw [List.getElem?_set]
  by_cases hij : i = j
  · subst hij
    rw [if_pos rfl, if_pos h, List.getD_eq_getElem?_getD, List.getElem?_eq_getElem h]
    rfl
  · rw [if_neg hij]
end Go.V
namespace Go.Proofs.Ytfjgfaccfjdklaa
open Go.RowKit Go.V
theorem zeroCs : (Try.prog.info? 31).map (·.zero) = some (some (.agg zCs.toArray)) := by kernel_rfl
theorem zeroRs : (Try.prog.info? 33).map (·.zero) = some (some (.agg (rvs (false, 0)).toArray)) := by kernel_rfl
theorem sizeRs : (Try.prog.info? 33).map (·.size) = some 2 := by kernel_rfl
theorem sizeOk : (Try.prog.info? 44).map (·.size) = some 4 := by kernel_rfl
theorem bldRs : ∀ W : World, (Instr.build 33 #[]).run Try.prog W = .ok (.agg (rvs (false, 0)).toArray) W := fun _ => by kernel_rfl
theorem bldRt (n : Int) : ∀ W : World, (Instr.build 33 #[(0, .bool true), (1, .int .i64 n)]).run Try.prog W = .ok (.agg (rvs (true, n)).toArray) W := fun _ => by kernel_rfl
theorem bldCl (n : Int) : ∀ W : World, (Instr.build 30 #[(0, .bool true), (1, .int .i64 n)]).run Try.prog W = .ok (.agg (Cl.l ⟨true, n⟩).toArray) W := fun _ => by kernel_rfl
theorem bldCz : ∀ W : World, (Instr.build 30 #[]).run Try.prog W = .ok (.agg zC.l.toArray) W := fun _ => by kernel_rfl
theorem nm_some (t : Bool) (n : Int) : (nmC ⟨t, n⟩).isSome = t := by cases t <;> rfl
/-- Do under way: the values' box g2, the answer's g8, the results' g4, g5 -/
structure DoS (w wx : World) (g2 g4 g5 g8 : Nat) (c : List Cl) (r : Bool × Int) : Prop where
  b2 : Blk wx g2 31 (cvs c)
  b8 : Blk wx g8 33 (rvs r)
  b4 : Blk wx g4 31 zCs
  b5 : Blk wx g5 33 (rvs (false, 0))
  B : Below w.heap.size w wx
  in_ : ClIn c
theorem DoS.el {w wx w' : World} {g2 g4 g5 g8 : Nat} {c : List Cl} {r : Bool × Int} (h : DoS w wx g2 g4 g5 g8 c r) {i : Nat} {x : Cl} (hi : i < 16) (hx : i64s x.n) (hb : Blk w' g2 31 ((cvs c).take (i * 2) ++ x.l ++ (cvs c).drop (i * 2 + x.l.length))) (hG : wx.grownBy w' (some g2)) (hw : w.heap.size ≤ g2) (h24 : g2 < g4) (h45 : g4 < g5) (h58 : g5 < g8) : DoS w w' g2 g4 g5 g8 (c.set i x) r := by
  have hk : ∀ g, g < wx.heap.size → g ≠ g2 → w'.heap[g]? = wx.heap[g]? := fun g hg hne => hG.block g hg (by intro e; injection e with e; exact hne e)
  refine ⟨?_, h.b8.keep (hk _ h.b8.lt (by omega)), h.b4.keep (hk _ h.b4.lt (by omega)), h.b5.keep (hk _ h.b5.lt (by omega)), h.B.grown hG h.B.size (by intro k hk; injection hk with hk; omega), in_set h.in_ i hx⟩
  rw [cvs_set c i x (by rw [h.in_.len]; exact hi), Nat.mul_comm 2 i]
  exact hb
theorem DoS.rs {w wx w' : World} {g2 g4 g5 g8 : Nat} {c : List Cl} {r q : Bool × Int} (h : DoS w wx g2 g4 g5 g8 c r) (hb : Blk w' g8 33 (rvs q)) (hG : wx.grownBy w' (some g8)) (hw : w.heap.size ≤ g2) (h24 : g2 < g4) (h45 : g4 < g5) (h58 : g5 < g8) : DoS w w' g2 g4 g5 g8 c q := by
  have hk : ∀ g, g < wx.heap.size → g ≠ g8 → w'.heap[g]? = wx.heap[g]? := fun g hg hne => hG.block g hg (by intro e; injection e with e; exact hne e)
  exact ⟨h.b2.keep (hk _ h.b2.lt (by omega)), hb, h.b4.keep (hk _ h.b4.lt (by omega)), h.b5.keep (hk _ h.b5.lt (by omega)), h.B.grown hG h.B.size (by intro k hk; injection hk with hk; omega), h.in_⟩
theorem sizeBo : (Try.prog.info? 4).map (·.size) = some 1 := by kernel_rfl
theorem sizeI6 : (Try.prog.info? 2).map (·.size) = some 1 := by kernel_rfl
end Go.Proofs.Ytfjgfaccfjdklaa
