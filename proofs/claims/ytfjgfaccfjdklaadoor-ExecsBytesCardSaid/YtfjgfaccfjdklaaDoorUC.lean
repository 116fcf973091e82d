/- UC: several texts in one (U1 U2 UD UC). -/
import Derived.Test.YtfjgfaccfjdklaaDoorU0
import Derived.Test.YtfjgfaccfjdklaaDoorVE
import Derived.Deep.DeepCutAuto
import Derived.Deep.RegionHeld3
import Derived.Test.YtfjgfaccfjdklaaDoorUV
import Derived.Test.YtfjgfaccfjdklaaDoorR2
import Derived.Test.YtfjgfaccfjdklaaDoorN3
/- U1: layer 14: contract of the document's Same. -/
namespace Go.V
open Go.RowKit
theorem yi_ixp {P : Program} {ops : Array Oper} {S : World → Prop} {o : Oper} {a : Act} (hw : Region.wanted o (yielded ops a.tmps) = true) (t : TypeId) (x y : Operand) (ho : o.op = .indexAddr t x y) {g off n : Nat} (hx : a.eval x = .pointer (some ⟨g, off, none⟩)) {i : Nat} (hy : a.eval y = .int .i64 (i : Int))
    {e : TypeId} (hu : P.underlying t = some (.array n e)) (hi : i < n) {s : Nat} (hsz : (P.info? e).map (·.size) = some s) : YieldsIf P ops S o (.pointer (some ⟨g, off + i * s, none⟩)) a := by
  refine .inl ⟨hw, fun w _ => ?_⟩
  cases hq : P.info? e with
  | none => simp [hq] at hsz
  | some f =>
    have hs : f.size = s := by simpa [hq] using hsz
    have h1 : (0 : Int) ≤ (i : Int) ∧ (i : Int) < (n : Int) := by omega
    have hr : (Instr.indexAt t (.pointer (some ⟨g, off, none⟩)) (.int .i64 (i : Int))).run P w = .ok (.pointer (some ⟨g, off + i * s, none⟩)) w := by
      simp [Instr.indexAt, asIntOf, run_underlying hu, sizeOf, typeInfo, hq, hs, h1, add_mk, Instr.sureAddr]
      intro hh
      exact absurd hh (by omega)
    unfold execOp
    simp only [ho, hx, hy, Sem.run_bind, Sem.run_pure, hr, Result.andThen_ok]
/-- as far as they were looked at, the same -/
def SameTo (a b : List Cl) (i : Nat) : Prop := ∀ j x y, j < i → a[j]? = some x → b[j]? = some y → nmC x = nmC y
theorem same_step {a b : List Cl} {i : Nat} {x y : Cl} (h : SameTo a b i) (hx : a[i]? = some x) (hy : b[i]? = some y) (he : nmC x = nmC y) : SameTo a b (i + 1) := fun j u v hj hu hv => by
  rcases Nat.lt_or_ge j i with h' | h'
  · exact h j u v h' hu hv
  · have : j = i := by omega
    subst this
    rw [hx] at hu
    rw [hy] at hv
    injection hu with hu
    injection hv with hv
    rw [← hu, ← hv, he]
theorem same_end {a b : List Cl} (ha : a.length = 16) (hb : b.length = 16) (h : SameTo a b 16) : nmF a = nmF b := by
  apply List.ext_getElem?
  intro j
  unfold nmF
  rw [List.getElem?_map, List.getElem?_map]
  by_cases hj : j < 16
  · obtain ⟨x, hx⟩ : ∃ x, a[j]? = some x := ⟨_, List.getElem?_eq_getElem (by omega)⟩
    obtain ⟨y, hy⟩ : ∃ y, b[j]? = some y := ⟨_, List.getElem?_eq_getElem (by omega)⟩
    rw [hx, hy]
    show some (nmC x) = some (nmC y)
    rw [h j x y hj hx hy]
  · rw [List.getElem?_eq_none (by omega), List.getElem?_eq_none (by omega)]
theorem same_not {a b : List Cl} {i : Nat} {x y : Cl} (hx : a[i]? = some x) (hy : b[i]? = some y) (he : nmC x ≠ nmC y) : nmF a ≠ nmF b := fun h => by
  have := congrArg (·[i]?) h
  unfold nmF at this
  simp only [List.getElem?_map, hx, hy, Option.map_some] at this
  injection this with this
  exact he this
end Go.V
namespace Go.Proofs.YtfjgfaccfjdklaaDoor
open Go.RowKit Go.V
theorem sizeCl : (Tryd.prog.info? 26).map (·.size) = some 2 := by kernel_rfl
theorem sizeCs : (Tryd.prog.info? 27).map (·.size) = some 32 := by kernel_rfl
end Go.Proofs.YtfjgfaccfjdklaaDoor
/- U2: layer 14: contract of the document's Do. -/
namespace Go.V
open Go.RowKit
def rvs (r : Bool × Int) : List Value := [.bool r.1, .int .i64 r.2]
theorem one_rvs (r : Bool × Int) : ∀ v ∈ rvs r, v.oneCell' = true := by
  intro v hv
  simp only [rvs, List.mem_cons, List.not_mem_nil, or_false] at hv
  rcases hv with rfl | rfl <;> rfl
theorem one_okl (o : Ok) : ∀ v ∈ o.l, v.oneCell' = true := by
  intro v hv
  simp only [Ok.l, List.mem_cons, List.not_mem_nil, or_false] at hv
  rcases hv with rfl | rfl | rfl | rfl <;> rfl
def zCs : List Value := cvs (List.replicate 16 zC)
theorem len_zCs : zCs.length = 32 := by decide
theorem alloc4 (w : World) (tA tB tC tD : TypeId) (lA lB lC lD : List Value) : ∃ W, W = ((((w.alloc (.cells lA.toArray tA)).alloc (.cells lB.toArray tB)).alloc (.cells lC.toArray tC)).alloc (.cells lD.toArray tD)) ∧ Blk W w.heap.size tA lA ∧ Blk W (w.heap.size + 1) tB lB ∧ Blk W (w.heap.size + 2) tC lC ∧ Blk W (w.heap.size + 3) tD lD ∧ Below w.heap.size w W := by
  refine ⟨_, rfl, ?_⟩
  have a1 := Blk.new' w tA lA
  have B1 : Below w.heap.size w (w.alloc (.cells lA.toArray tA)) := (Below.refl _ _).alloc (Nat.le_refl _) _
  obtain ⟨w1, h1⟩ : ∃ x, x = w.alloc (.cells lA.toArray tA) := ⟨_, rfl⟩
  have s1 : w1.heap.size = w.heap.size + 1 := by rw [h1]; simp
  rw [← h1] at a1 B1 ⊢
  clear h1
  have a2 := Blk.new' w1 tB lB
  have B2 : Below w1.heap.size w1 (w1.alloc (.cells lB.toArray tB)) := (Below.refl _ _).alloc (Nat.le_refl _) _
  obtain ⟨w2, h2⟩ : ∃ x, x = w1.alloc (.cells lB.toArray tB) := ⟨_, rfl⟩
  have s2 : w2.heap.size = w1.heap.size + 1 := by rw [h2]; simp
  rw [← h2] at a2 B2 ⊢
  clear h2
  have a3 := Blk.new' w2 tC lC
  have B3 : Below w2.heap.size w2 (w2.alloc (.cells lC.toArray tC)) := (Below.refl _ _).alloc (Nat.le_refl _) _
  obtain ⟨w3, h3⟩ : ∃ x, x = w2.alloc (.cells lC.toArray tC) := ⟨_, rfl⟩
  have s3 : w3.heap.size = w2.heap.size + 1 := by rw [h3]; simp
  rw [← h3] at a3 B3 ⊢
  clear h3
  have a4 := Blk.new' w3 tD lD
  have B4 : Below w3.heap.size w3 (w3.alloc (.cells lD.toArray tD)) := (Below.refl _ _).alloc (Nat.le_refl _) _
  have e2 : w1.heap.size = w.heap.size + 1 := s1
  have e3 : w2.heap.size = w.heap.size + 2 := by omega
  have e4 : w3.heap.size = w.heap.size + 3 := by omega
  rw [← e2, ← e3, ← e4]
  exact ⟨((a1.below B2).below B3).below B4, (a2.below B3).below B4, a3.below B4, a4, ((B1.trans (B2.mono (by omega))).trans (B3.mono (by omega))).trans (B4.mono (by omega))⟩
theorem blk_all {w : World} {g : Nat} {t : TypeId} {cs l : List Value} (h : Blk w g t (cs.take 0 ++ l ++ cs.drop (0 + l.length))) (hl : cs.length ≤ l.length) : Blk w g t l := by
  rw [List.take_zero, List.nil_append, List.drop_eq_nil_of_le (by omega), List.append_nil] at h
  exact h
theorem set_same {s : List (Option Int)} {i : Nat} (h : i < s.length) : s.set i (s.getD i none) = s := by
  apply List.ext_getElem?
  intro j
  rw [List.getElem?_set]
  by_cases hij : i = j
  · subst hij
    rw [if_pos rfl, if_pos h, List.getD_eq_getElem?_getD, List.getElem?_eq_getElem h]
    rfl
  · rw [if_neg hij]
end Go.V
namespace Go.Proofs.YtfjgfaccfjdklaaDoor
open Go.RowKit Go.V
theorem zeroCs : (Tryd.prog.info? 27).map (·.zero) = some (some (.agg zCs.toArray)) := by kernel_rfl
theorem zeroRs : (Tryd.prog.info? 29).map (·.zero) = some (some (.agg (rvs (false, 0)).toArray)) := by kernel_rfl
theorem sizeRs : (Tryd.prog.info? 29).map (·.size) = some 2 := by kernel_rfl
theorem sizeOk : (Tryd.prog.info? 51).map (·.size) = some 4 := by kernel_rfl
theorem bldRs : ∀ W : World, (Instr.build 29 #[]).run Tryd.prog W = .ok (.agg (rvs (false, 0)).toArray) W := fun _ => by kernel_rfl
theorem bldRt (n : Int) : ∀ W : World, (Instr.build 29 #[(0, .bool true), (1, .int .i64 n)]).run Tryd.prog W = .ok (.agg (rvs (true, n)).toArray) W := fun _ => by kernel_rfl
theorem bldCl (n : Int) : ∀ W : World, (Instr.build 26 #[(0, .bool true), (1, .int .i64 n)]).run Tryd.prog W = .ok (.agg (Cl.l ⟨true, n⟩).toArray) W := fun _ => by kernel_rfl
theorem bldCz : ∀ W : World, (Instr.build 26 #[]).run Tryd.prog W = .ok (.agg zC.l.toArray) W := fun _ => by kernel_rfl
theorem nm_some (t : Bool) (n : Int) : (nmC ⟨t, n⟩).isSome = t := by cases t <;> rfl
/-- Do under way: the values' box g2, the answer's g8, the results' g4, g5 -/
structure DoS (w wx : World) (g2 g4 g5 g8 : Nat) (c : List Cl) (r : Bool × Int) : Prop where
  b2 : Blk wx g2 27 (cvs c)
  b8 : Blk wx g8 29 (rvs r)
  b4 : Blk wx g4 27 zCs
  b5 : Blk wx g5 29 (rvs (false, 0))
  B : Below w.heap.size w wx
  in_ : ClIn c
theorem DoS.el {w wx w' : World} {g2 g4 g5 g8 : Nat} {c : List Cl} {r : Bool × Int} (h : DoS w wx g2 g4 g5 g8 c r) {i : Nat} {x : Cl} (hi : i < 16) (hx : i64s x.n) (hb : Blk w' g2 27 ((cvs c).take (i * 2) ++ x.l ++ (cvs c).drop (i * 2 + x.l.length))) (hG : wx.grownBy w' (some g2)) (hw : w.heap.size ≤ g2) (h24 : g2 < g4) (h45 : g4 < g5) (h58 : g5 < g8) : DoS w w' g2 g4 g5 g8 (c.set i x) r := by
  have hk : ∀ g, g < wx.heap.size → g ≠ g2 → w'.heap[g]? = wx.heap[g]? := fun g hg hne => hG.block g hg (by intro e; injection e with e; exact hne e)
  refine ⟨?_, h.b8.keep (hk _ h.b8.lt (by omega)), h.b4.keep (hk _ h.b4.lt (by omega)), h.b5.keep (hk _ h.b5.lt (by omega)), h.B.grown hG h.B.size (by intro k hk; injection hk with hk; omega), in_set h.in_ i hx⟩
  rw [cvs_set c i x (by rw [h.in_.len]; exact hi), Nat.mul_comm 2 i]
  exact hb
theorem DoS.rs {w wx w' : World} {g2 g4 g5 g8 : Nat} {c : List Cl} {r q : Bool × Int} (h : DoS w wx g2 g4 g5 g8 c r) (hb : Blk w' g8 29 (rvs q)) (hG : wx.grownBy w' (some g8)) (hw : w.heap.size ≤ g2) (h24 : g2 < g4) (h45 : g4 < g5) (h58 : g5 < g8) : DoS w w' g2 g4 g5 g8 c q := by
  have hk : ∀ g, g < wx.heap.size → g ≠ g8 → w'.heap[g]? = wx.heap[g]? := fun g hg hne => hG.block g hg (by intro e; injection e with e; exact hne e)
  exact ⟨h.b2.keep (hk _ h.b2.lt (by omega)), hb, h.b4.keep (hk _ h.b4.lt (by omega)), h.b5.keep (hk _ h.b5.lt (by omega)), h.B.grown hG h.B.size (by intro k hk; injection hk with hk; omega), h.in_⟩
theorem sizeBo : (Tryd.prog.info? 4).map (·.size) = some 1 := by kernel_rfl
theorem sizeI6 : (Tryd.prog.info? 2).map (·.size) = some 1 := by kernel_rfl
end Go.Proofs.YtfjgfaccfjdklaaDoor
/- UD: layer 14: contracts of kv over the landed code: value, isKey, settled, done. -/
namespace Go.V
open Go.RowKit
def stC (x : Cl) : Cl := if x.t = true then x else zC
def stF (c : List Cl) : List Cl := c.map stC
def stD (c : List Cl) (i : Nat) : List Cl := (stF c).take i ++ c.drop i
theorem nm_st (c : List Cl) : nmF (stF c) = nmF c := by
  unfold nmF stF
  rw [List.map_map]
  apply List.map_congr_left
  intro x _
  show nmC (stC x) = nmC x
  obtain ⟨t, n⟩ := x
  cases t <;> rfl
theorem st_in {c : List Cl} (h : ClIn c) : ClIn (stF c) := by
  refine ⟨by unfold stF; rw [List.length_map]; exact h.len, fun y hy => ?_⟩
  unfold stF at hy
  obtain ⟨x, hx, rfl⟩ := List.mem_map.1 hy
  unfold stC
  split
  · exact h.n x hx
  · exact ⟨by show (-9223372036854775808 : Int) ≤ 0; omega, by show (0 : Int) ≤ _; omega⟩
theorem st_zero {c : List Cl} {x : Cl} (h : x ∈ stF c) : x.t = false → x.n = 0 := by
  unfold stF at h
  obtain ⟨y, _, rfl⟩ := List.mem_map.1 h
  unfold stC
  split
  · intro h'; simp_all
  · intro _; rfl
theorem st_next (c : List Cl) (i : Nat) (x : Cl) (hx : c[i]? = some x) : stD c (i + 1) = (stD c i).set i (stC x) := by
  have hi : i < c.length := by
    rcases Nat.lt_or_ge i c.length with h | h
    · exact h
    · rw [List.getElem?_eq_none h] at hx; cases hx
  have hd : c.drop i = x :: c.drop (i + 1) := by
    rw [List.drop_eq_getElem_cons hi]
    rw [List.getElem?_eq_getElem hi] at hx
    injection hx with hx
    rw [hx]
  have hs : (stF c)[i]? = some (stC x) := by unfold stF; rw [List.getElem?_map, hx]; rfl
  have hl : ((stF c).take i).length = i := by unfold stF; rw [List.length_take, List.length_map]; omega
  unfold stD
  rw [List.take_add_one, hs, hd, List.set_append_right i (stC x) (by omega), hl, Nat.sub_self]
  simp
theorem st_same (c : List Cl) (i : Nat) (x : Cl) (hx : c[i]? = some x) (ht : x.t = true) : stD c (i + 1) = stD c i := by
  rw [st_next c i x hx]
  have hi : i < c.length := by
    rcases Nat.lt_or_ge i c.length with h | h
    · exact h
    · rw [List.getElem?_eq_none h] at hx; cases hx
  have hl : ((stF c).take i).length = i := by unfold stF; rw [List.length_take, List.length_map]; omega
  have hg : (stD c i)[i]? = some x := by
    unfold stD
    rw [List.getElem?_append_right (by omega), hl, Nat.sub_self, List.getElem?_drop, Nat.add_zero]
    exact hx
  have hc : stC x = x := by unfold stC; rw [if_pos ht]
  rw [hc]
  apply List.ext_getElem?
  intro j
  rw [List.getElem?_set]
  split
  · rename_i h; subst h; split
    · exact hg.symm
    · rename_i h; rw [List.getElem?_eq_none (by omega)]
  · rfl
theorem len_st (c : List Cl) (i : Nat) : (stD c i).length = c.length := by
  unfold stD stF
  rw [List.length_append, List.length_take, List.length_map, List.length_drop]
  omega
theorem st_end {c : List Cl} (h : c.length = 16) : stD c 16 = stF c := by
  unfold stD
  rw [List.take_of_length_le (by unfold stF; rw [List.length_map]; omega), List.drop_of_length_le (by omega), List.append_nil]
theorem cvs_cut : ∀ (c : List Cl) (i : Nat) (x : Cl), c[i]? = some x → ((cvs c).drop (i * 2)).take 2 = x.l
  | [], i, x, h => by simp at h
  | y :: c, 0, x, h => by simp at h; subst h; rfl
  | y :: c, i + 1, x, h => by
    have h : c[i]? = some x := by simpa using h
    have := cvs_cut c i x h
    rw [show (i + 1) * 2 = i * 2 + 2 by omega]
    exact this
theorem one_cl (x : Cl) : ∀ v ∈ x.l, v.oneCell' = true := by
  intro v hv
  simp only [Cl.l, List.mem_cons, List.not_mem_nil, or_false] at hv
  rcases hv with rfl | rfl <;> rfl
/-- a key's cell behind an op, and what it came to, where a cell without a value has the number 0 -/
def dnC (x : Cl) (o : Ok) : Cl × (Bool × Int) :=
  if o.k = 1 then (x, (x.t, x.n)) else if o.k = 2 then (⟨true, o.a⟩, (true, x.n)) else if o.k = 3 then (⟨true, w64 (x.n + o.a)⟩, (true, w64 (x.n + o.a)))
  else if o.k = 4 then (if x.t = true ∧ x.n = o.a then (⟨true, o.b⟩, (true, o.b)) else (x, (false, x.n))) else if o.k = 5 then (zC, (x.t, x.n)) else (x, (false, 0))
theorem dn_good (x : Cl) (o : Ok) (hx : x.t = false → x.n = 0) (hg : goodK o) : nmC (dnC x o).1 = newK o (nmC x) ∧ (dnC x o).2 = resK o (nmC x) := by
  obtain ⟨t, n⟩ := x
  obtain ⟨k, y, a, b⟩ := o
  obtain ⟨_, h1, h2⟩ := hg
  have h1 : 1 ≤ k := h1
  have h2 : k ≤ 5 := h2
  have hk : k = 1 ∨ k = 2 ∨ k = 3 ∨ k = 4 ∨ k = 5 := by omega
  cases t with
  | false =>
    have hn : n = 0 := hx rfl
    subst hn
    rcases hk with rfl | rfl | rfl | rfl | rfl <;> exact ⟨rfl, rfl⟩
  | true =>
    rcases hk with rfl | rfl | rfl | rfl | rfl
    · exact ⟨rfl, rfl⟩
    · exact ⟨rfl, rfl⟩
    · exact ⟨rfl, rfl⟩
    · by_cases h : n = a
      · subst h
        have e1 : dnC ⟨true, n⟩ ⟨4, y, n, b⟩ = (⟨true, b⟩, (true, b)) := by simp [dnC]
        have e2 : newK ⟨4, y, n, b⟩ (some n) = some b := by simp [newK]
        have e3 : resK ⟨4, y, n, b⟩ (some n) = (true, b) := by simp [resK]
        rw [e1]
        exact ⟨e2.symm, e3.symm⟩
      · have e1 : dnC ⟨true, n⟩ ⟨4, y, a, b⟩ = (⟨true, n⟩, (false, n)) := by simp [dnC, h]
        have hne : ¬ (some n = some a) := fun h' => h (by injection h')
        have e2 : newK ⟨4, y, a, b⟩ (some n) = some n := by simp [newK, h]
        have e3 : resK ⟨4, y, a, b⟩ (some n) = (false, n) := by simp [resK, h]
        rw [e1]
        exact ⟨e2.symm, e3.symm⟩
    · exact ⟨rfl, rfl⟩
theorem dn_bad (x : Cl) (o : Ok) (h : ¬ (1 ≤ o.k ∧ o.k ≤ 5)) : dnC x o = (x, (false, 0)) := by
  unfold dnC
  rw [if_neg (by omega), if_neg (by omega), if_neg (by omega), if_neg (by omega), if_neg (by omega)]
theorem dn_in {x : Cl} {o : Ok} (hx : i64s x.n) (ho : OkIn o) : i64s (dnC x o).1.n := by
  unfold dnC
  split
  · exact hx
  · split
    · exact ho.a
    · split
      · exact w64_in _
      · split
        · split
          · exact ho.b
          · exact hx
        · split
          · exact ⟨by show (-9223372036854775808 : Int) ≤ 0; omega, by show (0 : Int) ≤ _; omega⟩
          · exact hx
end Go.V
namespace Go.Proofs.YtfjgfaccfjdklaaDoor
open Go.RowKit Go.V
theorem zeroCl : (Tryd.prog.info? 26).map (·.zero) = some (some (.agg zC.l.toArray)) := by kernel_rfl
theorem aggCl : ∀ W : World, (isAgg 26).run Tryd.prog W = .ok true W := fun W => by kernel_rfl
theorem bldRv (t : Bool) (n : Int) : ∀ W : World, (Instr.build 29 #[(0, .bool t), (1, .int .i64 n)]).run Tryd.prog W = .ok (.agg (rvs (t, n)).toArray) W := fun _ => by kernel_rfl
theorem bldRn (n : Int) : ∀ W : World, (Instr.build 29 #[(1, .int .i64 n)]).run Tryd.prog W = .ok (.agg (rvs (false, n)).toArray) W := fun _ => by kernel_rfl
set_option maxRecDepth 100000 in
theorem value14_any (n : Int) (w : World) :
    Calls Tryd.prog 81 #[.int .i64 n] w fun e w' => e = .returned (.agg (Cl.l ⟨true, n⟩).toArray) ∧ Below w.heap.size w w' := by
  have b2 := Blk.new' w 26 zC.l
  have hB : Below w.heap.size w (w.alloc (.cells zC.l.toArray 26)) := (Below.refl _ _).alloc (Nat.le_refl _) _
  obtain ⟨w0, hw0⟩ : ∃ x, x = w.alloc (.cells zC.l.toArray 26) := ⟨_, rfl⟩
  rw [← hw0] at b2 hB
  go_enter Tryd.func81, Tryd.ntmps81
  go_wp2_with (first | (refine wp_new 26 rfl rfl zeroCl ?_; refine wp_stop ?_))
  rw [← hw0]
  clear hw0
  obtain ⟨g2, hg2⟩ : ∃ g, g = w.heap.size := ⟨_, rfl⟩
  have hw2 : w.heap.size ≤ g2 := by omega
  rw [← hg2] at b2 ⊢
  clear hg2
  refine wp_go ?_
  go_wp2_with (first | refine wp_bld 26 [(0, .const (.bool true)), (1, .tmp 3)] rfl rfl [(0, .bool true), (1, .int .i64 n)] rfl (bldCl n) ?_ | (refine wp_st 26 (.tmp 2) (.tmp 4) rfl rfl rfl (f := 0) rfl (l := Cl.l ⟨true, n⟩) rfl b2 (by show 0 + 2 ≤ 2; omega) sizeCl (one_cl _) ?_; intro x1 k2 G2))
  have k2 := blk_all k2 (by show 2 ≤ 2; omega)
  refine ret_cell rfl rfl k2.whole Tryd.underlying26 rfl sizeCl rfl ?_
  exact ⟨rfl, hB.grown G2 hB.size (by intro k hk; injection hk with hk; omega)⟩
theorem isKey14_any (y : Int) (w : World) :
    Calls Tryd.prog 72 #[.int .i64 y] w fun e w' => e = .returned (.bool (decide (0 ≤ y ∧ y ≤ 15))) ∧ Below w.heap.size w w' := by
  by_cases h1 : y < 0
  · have hd : Hid (decide (0 ≤ y ∧ y ≤ 15) = false) := decide_eq_false (by omega)
    have hge : ¬ (0 : Int) ≤ y := by omega
    rw [hd.out]
    go_enter Tryd.func72, Tryd.ntmps72
    go_wp2
    go_ret
    exact ⟨rfl, Below.refl _ _⟩
  · have hge : (0 : Int) ≤ y := by omega
    have hd : Hid (decide (0 ≤ y ∧ y ≤ 15) = decide (y < 16)) := decide_eq_decide.2 (by omega)
    rw [hd.out]
    go_enter Tryd.func72, Tryd.ntmps72
    go_wp2
    go_ret
    exact ⟨rfl, Below.refl _ _⟩
set_option maxRecDepth 100000 in
set_option maxHeartbeats 4000000 in
theorem settled14_any (c : List Cl) (w : World) (hc : ClIn c) :
    Calls Tryd.prog 74 #[.agg (cvs c).toArray] w fun e w' => e = .returned (.agg (cvs (stF c)).toArray) ∧ Below w.heap.size w w' := by
  have hcl := hc.len
  have Lc := hid (show (cvs c).length = 32 by rw [len_cvs, hcl])
  have Ls := hid (fun i => show (cvs (stD c i)).length = 32 by rw [len_cvs, len_st, hcl])
  have Lsd := hid (fun i => show (stD c i).length = 16 by rw [len_st, hcl])
  obtain ⟨W, hW, b1, b2, hB⟩ := alloc2 w 27 27 (cvs c) zCs
  have hcut := hid (cvs_cut c)
  have hst := hid (st_next c)
  have hsm := hid (st_same c)
  have hend := hid (st_end hcl)
  have b1 : Blk W w.heap.size 27 (cvs (stD c 0)) := b1
  obtain ⟨cc, hcc⟩ : ∃ cc, cc = cvs c := ⟨_, rfl⟩
  rw [← hcc] at hW Lc hcut ⊢
  have b1' : Blk W w.heap.size 27 cc := by rw [hcc]; exact b1
  clear hcc
  go_enter Tryd.func74, Tryd.ntmps74
  go_wp2_with (first | (refine wp_new 27 rfl rfl zeroCs ?_; refine wp_stop ?_))
  rw [← hW]
  clear hW
  obtain ⟨g2, hg2⟩ : ∃ g, g = w.heap.size + 1 := ⟨_, rfl⟩
  obtain ⟨g1, hg1⟩ : ∃ g, g = w.heap.size := ⟨_, rfl⟩
  rw [← hg2] at b2 ⊢
  rw [← hg1] at b1 b1' ⊢
  have hw1 : w.heap.size ≤ g1 := by omega
  have h12 : g1 < g2 := by omega
  clear hg1 hg2
  refine wp_go ?_
  go_wp2_with (refine wp_ld 27 (.tmp 1) rfl rfl rfl b1'.whole Tryd.underlying27 rfl (by rw [Lc.out]; exact sizeCs) ?_)
  have H1 := hid b1
  have H2 := hid b2
  clear b1 b1' b2
  go_loopw [6] (fun iv wr => ∃ i : Nat, i ≤ 16 ∧ iv = .int .i64 i ∧ Blk wr g1 27 (cvs (stD c i)) ∧ Blk wr g2 27 zCs ∧ Below w.heap.size w wr) (fun i _ => 16 - (intOf i).toNat)
  case atStart => exact ⟨0, Nat.zero_le _, rfl, H1.out, H2.out, hB⟩
  case round =>
    clear H1 H2 hB
    obtain ⟨i, hi, rfl, b1, b2, hB⟩ := hrel
    by_cases hlt : i < 16
    · have hI : (i : Int) < 16 := by omega
      obtain ⟨x, hx⟩ : ∃ x, c[i]? = some x := ⟨_, List.getElem?_eq_getElem (by omega)⟩
      have hk := hid (hcut.out i x hx)
      have hsn := hst.out i x hx
      have hss := hsm.out i x hx
      have z2 : (0 + i * 2) = i * 2 := Nat.zero_add _
      obtain ⟨t, n⟩ := x
      have hgl2 := b2.lt
      have b4 := Blk.new' wr 26 zC.l
      have hBa : Below wr.heap.size wr (wr.alloc (.cells zC.l.toArray 26)) := (Below.refl _ _).alloc (Nat.le_refl _) _
      have b1 := b1.below hBa
      have b2 := b2.below hBa
      have hBw := hB.trans (hBa.mono hB.size)
      have hsz := hB.size
      obtain ⟨w4, hw4⟩ : ∃ x, x = wr.alloc (.cells zC.l.toArray 26) := ⟨_, rfl⟩
      rw [← hw4] at b4 b1 b2 hBw
      clear hx hBa
      go_wp2_with (first | refine wp_idxW 27 (.tmp 5) (.tmp 6) rfl rfl (l := cc) rfl rfl Tryd.underlying27 hlt aggCl sizeCl ?_; rw [hk.out] | (refine wp_new 26 rfl rfl zeroCl ?_; refine wp_stop ?_))
      rw [← hw4]
      clear hw4
      obtain ⟨g4, hg4⟩ : ∃ g, g = wr.heap.size := ⟨_, rfl⟩
      rw [← hg4] at b4 hgl2 ⊢
      have hgw : w.heap.size ≤ g4 := by omega
      clear hg4 hsz hB
      refine wp_go ?_
      go_wp2_with (first | (refine wp_st 26 (.tmp 4) (.tmp 9) rfl rfl rfl (f := 0) rfl (l := Cl.l ⟨t, n⟩) rfl b4 (by show 0 + 2 ≤ 2; omega) sizeCl (one_cl _) ?_; intro w5 k5 G5; refine wp_stop ?_))
      have k5 := blk_all k5 (by show 2 ≤ 2; omega)
      have b1 := b1.keep (G5.block _ b1.lt (by intro e; injection e with e; omega))
      have b2 := b2.keep (G5.block _ b2.lt (by intro e; injection e with e; omega))
      have hB := hBw.grown G5 hBw.size (by intro k hk; injection hk with hk; omega)
      have d0 := k5.cellAt 0 _ rfl
      clear G5 b4 hBw k5
      refine wp_go ?_
      cases t with
      | true =>
        have hss := hid (hss rfl)
        clear hsn
        go_wp2
        go_roundw
        case rel => exact ⟨i + 1, by omega, by go_num, by rw [hss.out]; exact b1, b2, hB⟩
        case measure => simp [intOf]; omega
      | false =>
        have hsn : Hid (stD c (i + 1) = (stD c i).set i zC) := hsn
        have hLD := Lsd.out i
        clear hss
        have hLS := Ls.out i
        go_wp2_with (first | refine wp_bld 26 [] rfl rfl [] rfl bldCz ?_ | refine wp_ixp 27 (.tmp 1) (.tmp 13) rfl rfl rfl rfl Tryd.underlying27 hlt sizeCl ?_ | (refine wp_st 26 (.tmp 15) (.tmp 14) rfl rfl rfl (f := 0 + i * 2) rfl (l := zC.l) rfl b1 (by rw [hLS]; show 0 + i * 2 + 2 ≤ 32; omega) sizeCl (one_cl _) ?_; intro w6 k6 G6; refine wp_stop ?_))
        have b2 := b2.keep (G6.block _ b2.lt (by intro e; injection e with e; omega))
        have hB := hB.grown G6 hB.size (by intro k hk; injection hk with hk; omega)
        have k6 : Blk w6 g1 27 (cvs (stD c (i + 1))) := by
          rw [Nat.zero_add] at k6
          rw [hsn.out, cvs_set _ i zC (by omega), Nat.mul_comm 2 i]
          exact k6
        clear d0 b1 hLS hLD
        refine wp_go ?_
        go_wp2
        go_roundw
        case rel => exact ⟨i + 1, by omega, by go_num, k6, b2, hB⟩
        case measure => simp [intOf]; omega
    · have hi' : i = 16 := by omega
      subst hi'
      have hI : ¬ (16 : Int) < 16 := by omega
      rw [hend.out] at b1
      have hL := hid (show (cvs (stF c)).length = 32 by rw [← hend.out]; exact Ls.out 16)
      go_wp2_with (first | refine wp_ld 27 (.tmp 1) rfl rfl rfl b1.whole Tryd.underlying27 rfl (by rw [hL.out]; exact sizeCs) ?_ | (refine wp_st 27 (.tmp 2) (.tmp 17) rfl rfl rfl (f := 0) rfl (l := cvs (stF c)) rfl b2 (by rw [hL.out, len_zCs]; omega) (by rw [hL.out]; exact sizeCs) (one_cvs _) ?_; intro w6 k6 G6))
      have k6 := blk_all k6 (by rw [hL.out, len_zCs]; omega)
      have hB := hB.grown G6 hB.size (by intro k hk; injection hk with hk; omega)
      refine ret_cell rfl rfl k6.whole Tryd.underlying27 rfl (by rw [hL.out]; exact sizeCs) rfl ?_
      exact ⟨rfl, hB⟩
set_option maxRecDepth 100000 in
set_option maxHeartbeats 8000000 in
theorem done14_any (x : Cl) (o : Ok) (w : World) :
    Calls Tryd.prog 75 #[.agg x.l.toArray, .agg o.l.toArray] w fun e w' => e = .returned (.tuple #[.agg (dnC x o).1.l.toArray, .agg (rvs (dnC x o).2).toArray]) ∧ Below w.heap.size w w' := by
  obtain ⟨D, hD⟩ : ∃ D, D = dnC x o := ⟨_, rfl⟩
  rw [← hD]
  have HD := hid hD
  clear hD
  obtain ⟨W, hW, b2, b3, b4, b5, hB⟩ := alloc4 w 26 51 26 29 x.l o.l zC.l (rvs (false, 0))
  have b4 : Blk W (w.heap.size + 1 + 1) 26 zC.l := b4
  have b5 : Blk W (w.heap.size + 1 + 1 + 1) 29 (rvs (false, 0)) := b5
  obtain ⟨k, y, a, b⟩ := o
  obtain ⟨t, n⟩ := x
  go_enter Tryd.func75, Tryd.ntmps75
  go_wp2_with (first | (refine wp_new 26 rfl rfl zeroCl ?_; refine wp_new 29 rfl rfl zeroRs ?_; refine wp_stop ?_))
  rw [← hW]
  clear hW
  obtain ⟨g5, hg5⟩ : ∃ g, g = w.heap.size + 1 + 1 + 1 := ⟨_, rfl⟩
  rw [← hg5] at b5 ⊢
  obtain ⟨g4, hg4⟩ : ∃ g, g = w.heap.size + 1 + 1 := ⟨_, rfl⟩
  rw [← hg4] at b4 ⊢
  obtain ⟨g3, hg3⟩ : ∃ g, g = w.heap.size + 1 := ⟨_, rfl⟩
  rw [← hg3] at b3 ⊢
  obtain ⟨g2, hg2⟩ : ∃ g, g = w.heap.size := ⟨_, rfl⟩
  rw [← hg2] at b2 ⊢
  have hw2 : w.heap.size ≤ g2 := by omega
  have h23 : g2 < g3 := by omega
  have h34 : g3 < g4 := by omega
  have h45 : g4 < g5 := by omega
  clear hg2 hg3 hg4 hg5
  have c0 := b2.cellAt 0 _ rfl
  have c1 := b2.cellAt 1 _ rfl
  have d0 := b3.cellAt 0 _ rfl
  have d2 := b3.cellAt 2 _ rfl
  have d3 := b3.cellAt 3 _ rfl
  have X2 : Hid (∀ Z, Ch (fun y => y = g4 ∨ y = g5) W Z → Blk Z g2 26 (Cl.l ⟨t, n⟩)) := fun Z h => b2.ch h (by rintro (h | h) <;> omega)
  have X20 : Hid (∀ Z, Ch (fun y => y = g4 ∨ y = g5) W Z → Z.cell? ⟨g2, 0, none⟩ = some (.bool t)) := fun Z h => (X2.out Z h).cellAt 0 _ rfl
  have X21 : Hid (∀ Z, Ch (fun y => y = g4 ∨ y = g5) W Z → Z.cell? ⟨g2, 1, none⟩ = some (.int .i64 n)) := fun Z h => (X2.out Z h).cellAt 1 _ rfl
  have X3 : Hid (∀ Z, Ch (fun y => y = g4 ∨ y = g5) W Z → Blk Z g3 51 (Ok.l ⟨k, y, a, b⟩)) := fun Z h => b3.ch h (by rintro (h | h) <;> omega)
  have X32 : Hid (∀ Z, Ch (fun y => y = g4 ∨ y = g5) W Z → Z.cell? ⟨g3, 2, none⟩ = some (.int .i64 a)) := fun Z h => (X3.out Z h).cellAt 2 _ rfl
  have X33 : Hid (∀ Z, Ch (fun y => y = g4 ∨ y = g5) W Z → Z.cell? ⟨g3, 3, none⟩ = some (.int .i64 b)) := fun Z h => (X3.out Z h).cellAt 3 _ rfl
  refine wp_go ?_
  by_cases k1 : k = 1
  · subst k1
    have Hd : Hid (D = (⟨t, n⟩, (t, n))) := HD.out
    go_upto_region 3 with (fail)
    have h4 := b4.drew
    have h5 := b5.drew
    refine wp_region_noPanic ?_
    refine wp_region_held_drew (S := Ch (fun y => y = g4 ∨ y = g5) W) (by kernel_rfl) ((Ch.refl _ _).drew) (fun hHeld => ?_)
    refine wpAnyH_take (i := 0) (oi := ⟨some 11, .load 26 (.tmp 2), _, _, _, none⟩) (v := _) rfl (by kernel_rfl) (by kernel_rfl) (by kernel_rfl) (fun _ _ _ h => h) (yieldsIf_load_mid (by rfl) 26 (.tmp 2) (by rfl) _ (0) (by rfl) _ _ (fun _ hs => (X2.out _ hs).whole) Tryd.underlying26 rfl (sizeCl)) (by assumption) ?_
    try simp only [Act.put, List.setIfInBounds_toArray, List.set_cons_zero, List.set_cons_succ]
    refine wpAnyH_take (i := 1) (oi := ⟨some 12, _, _, _, _, none⟩) (v := ?_) rfl (by kernel_rfl) (by kernel_rfl) (by kernel_rfl) (fun _ _ _ h => h) (Or.inl ⟨by rfl, ?_⟩) (by assumption) ?_
    rotate_left
    · intro w hSw; go_simp; try with_reducible rfl
    try simp only [Act.put, List.setIfInBounds_toArray, List.set_cons_zero, List.set_cons_succ]
    refine wpAnyH_take (i := 2) (oi := ⟨some 13, _, _, _, _, none⟩) (v := ?_) rfl (by kernel_rfl) (by kernel_rfl) (by kernel_rfl) (fun _ _ _ h => h) (Or.inl ⟨by rfl, ?_⟩) (by assumption) ?_
    rotate_left
    · intro w hSw; have hcw := X20.out w hSw; go_simp; try with_reducible rfl
    try simp only [Act.put, List.setIfInBounds_toArray, List.set_cons_zero, List.set_cons_succ]
    refine wpAnyH_take (i := 3) (oi := ⟨some 14, _, _, _, _, none⟩) (v := ?_) rfl (by kernel_rfl) (by kernel_rfl) (by kernel_rfl) (fun _ _ _ h => h) (Or.inl ⟨by rfl, ?_⟩) (by assumption) ?_
    rotate_left
    · intro w hSw; go_simp; try with_reducible rfl
    try simp only [Act.put, List.setIfInBounds_toArray, List.set_cons_zero, List.set_cons_succ]
    refine wpAnyH_take (i := 4) (oi := ⟨some 15, _, _, _, _, none⟩) (v := ?_) rfl (by kernel_rfl) (by kernel_rfl) (by kernel_rfl) (fun _ _ _ h => h) (Or.inl ⟨by rfl, ?_⟩) (by assumption) ?_
    rotate_left
    · intro w hSw; have hcw := X21.out w hSw; go_simp; try with_reducible rfl
    try simp only [Act.put, List.setIfInBounds_toArray, List.set_cons_zero, List.set_cons_succ]
    refine wpAnyH_take (i := 5) (oi := ⟨some 16, .build 29 #[(0, .tmp 13), (1, .tmp 15)], _, _, _, none⟩) (v := _) rfl (by kernel_rfl) (by kernel_rfl) (by kernel_rfl) (fun _ _ _ h => h) (y_bld (by rfl) 29 [(0, .tmp 13), (1, .tmp 15)] (by rfl) [(0, .bool t), (1, .int .i64 n)] (by rfl) (bldRv t n)) (by assumption) ?_
    try simp only [Act.put, List.setIfInBounds_toArray, List.set_cons_zero, List.set_cons_succ]
    refine wpAnyH_ready (rs := [6]) (by kernel_rfl) (by simp) ?_
    refine AllReadyH.cons (o := ⟨none, .store 26 (.tmp 4) (.tmp 11), _, _, _, none⟩) rfl (fun K hK => ?_) AllReadyH.nil
    refine step_st 26 (.tmp 4) (.tmp 11) (by rfl) (by rfl) (by rfl) (f := 0) (by rfl) (l := (Cl.l ⟨t, n⟩)) (by rfl) h4 (by show 0 + 2 ≤ 2; omega) sizeCl (one_cl _) ?_
    intro x1 k4 G4
    have h4 := blk_all k4 (by show 2 ≤ 2; omega)
    have h5 := h5.keep (G4.block _ h5.lt (by intro e; injection e with e; omega))
    refine hK.out _ _ (hHeld.grow G4 (fun k hk => .inl (.inl (by injection hk with hk; exact hk.symm)))) (fun hHeld => ?_)
    clear hK K
    try simp only [Act.put, List.setIfInBounds_toArray, List.set_cons_zero, List.set_cons_succ]
    refine wpAnyH_ready (rs := [7]) (by kernel_rfl) (by simp) ?_
    refine AllReadyH.cons (o := ⟨none, .store 29 (.tmp 5) (.tmp 16), _, _, _, none⟩) rfl (fun K hK => ?_) AllReadyH.nil
    refine step_st 29 (.tmp 5) (.tmp 16) (by rfl) (by rfl) (by rfl) (f := 0) (by rfl) (l := rvs (t, n)) (by rfl) h5 (by show 0 + 2 ≤ 2; omega) sizeRs (one_rvs _) ?_
    intro x2 k5 G5
    have h5 := blk_all k5 (by show 2 ≤ 2; omega)
    have h4 := h4.keep (G5.block _ h4.lt (by intro e; injection e with e; omega))
    refine hK.out _ _ (hHeld.grow G5 (fun k hk => .inl (.inr (by injection hk with hk; exact hk.symm)))) (fun hHeld => ?_)
    clear hK K
    try simp only [Act.put, List.setIfInBounds_toArray, List.set_cons_zero, List.set_cons_succ]
    refine wpAnyH_done (by kernel_rfl) ?_ _
    refine NoPanic.normal ?_
    have hB := Ch.below_of hB hHeld (fun k hk => by rcases hk with rfl | rfl <;> omega) hB.size
    go_wp2
    refine ret_cell2 rfl rfl rfl h4.whole h5.whole Tryd.underlying26 rfl sizeCl Tryd.underlying29 rfl sizeRs rfl ?_
    exact ⟨by rw [Hd.out], hB⟩
  by_cases k2 : k = 2
  · subst k2
    have Hd : Hid (D = (⟨true, a⟩, (true, n))) := HD.out
    go_upto_region 5 with (fail)
    have h4 := b4.drew
    have h5 := b5.drew
    refine wp_region_noPanic ?_
    refine wp_region_held_drew (S := Ch (fun y => y = g4 ∨ y = g5) W) (by kernel_rfl) ((Ch.refl _ _).drew) (fun hHeld => ?_)
    refine wpAnyH_take (i := 0) (oi := ⟨some 19, _, _, _, _, none⟩) (v := ?_) rfl (by kernel_rfl) (by kernel_rfl) (by kernel_rfl) (fun _ _ _ h => h) (Or.inl ⟨by rfl, ?_⟩) (by assumption) ?_
    rotate_left
    · intro w hSw; go_simp; try with_reducible rfl
    try simp only [Act.put, List.setIfInBounds_toArray, List.set_cons_zero, List.set_cons_succ]
    refine wpAnyH_take (i := 1) (oi := ⟨some 20, _, _, _, _, none⟩) (v := ?_) rfl (by kernel_rfl) (by kernel_rfl) (by kernel_rfl) (fun _ _ _ h => h) (Or.inl ⟨by rfl, ?_⟩) (by assumption) ?_
    rotate_left
    · intro w hSw; have hcw := X32.out w hSw; go_simp; try with_reducible rfl
    try simp only [Act.put, List.setIfInBounds_toArray, List.set_cons_zero, List.set_cons_succ]
    refine wpAnyH_take (i := 3) (oi := ⟨some 22, _, _, _, _, none⟩) (v := ?_) rfl (by kernel_rfl) (by kernel_rfl) (by kernel_rfl) (fun _ _ _ h => h) (Or.inl ⟨by rfl, ?_⟩) (by assumption) ?_
    rotate_left
    · intro w hSw; go_simp; try with_reducible rfl
    try simp only [Act.put, List.setIfInBounds_toArray, List.set_cons_zero, List.set_cons_succ]
    refine wpAnyH_take (i := 4) (oi := ⟨some 23, _, _, _, _, none⟩) (v := ?_) rfl (by kernel_rfl) (by kernel_rfl) (by kernel_rfl) (fun _ _ _ h => h) (Or.inl ⟨by rfl, ?_⟩) (by assumption) ?_
    rotate_left
    · intro w hSw; have hcw := X21.out w hSw; go_simp; try with_reducible rfl
    try simp only [Act.put, List.setIfInBounds_toArray, List.set_cons_zero, List.set_cons_succ]
    refine wpAnyH_take (i := 5) (oi := ⟨some 24, .build 29 #[(0, .const (.bool true)), (1, .tmp 23)], _, _, _, none⟩) (v := _) rfl (by kernel_rfl) (by kernel_rfl) (by kernel_rfl) (fun _ _ _ h => h) (y_bld (by rfl) 29 [(0, .const (.bool true)), (1, .tmp 23)] (by rfl) [(0, .bool true), (1, .int .i64 n)] (by rfl) (bldRv true n)) (by assumption) ?_
    try simp only [Act.put, List.setIfInBounds_toArray, List.set_cons_zero, List.set_cons_succ]
    refine wpAnyH_ready (rs := [2]) (by kernel_rfl) (by simp) ?_
    refine AllReadyH.cons (o := ⟨some 21, _, _, _, _, none⟩) rfl (fun K hK => ?_) AllReadyH.nil
    go_simp
    refine (value14_any a _).mono ?_
    rintro e' w7 ⟨rfl, hB7⟩
    have h4 := h4.below hB7
    have h5 := h5.below hB7
    refine hK.out _ _ (hHeld.belowR hB7) (fun hHeld => ?_)
    clear hK K
    try simp only [Act.put, List.setIfInBounds_toArray, List.set_cons_zero, List.set_cons_succ]
    refine wpAnyH_ready (rs := [6]) (by kernel_rfl) (by simp) ?_
    refine AllReadyH.cons (o := ⟨none, .store 26 (.tmp 4) (.tmp 21), _, _, _, none⟩) rfl (fun K hK => ?_) AllReadyH.nil
    refine step_st 26 (.tmp 4) (.tmp 21) (by rfl) (by rfl) (by rfl) (f := 0) (by rfl) (l := Cl.l ⟨true, a⟩) (by rfl) h4 (by show 0 + 2 ≤ 2; omega) sizeCl (one_cl _) ?_
    intro x1 k4 G4
    have h4 := blk_all k4 (by show 2 ≤ 2; omega)
    have h5 := h5.keep (G4.block _ h5.lt (by intro e; injection e with e; omega))
    refine hK.out _ _ (hHeld.grow G4 (fun k hk => .inl (.inl (by injection hk with hk; exact hk.symm)))) (fun hHeld => ?_)
    clear hK K
    try simp only [Act.put, List.setIfInBounds_toArray, List.set_cons_zero, List.set_cons_succ]
    refine wpAnyH_ready (rs := [7]) (by kernel_rfl) (by simp) ?_
    refine AllReadyH.cons (o := ⟨none, .store 29 (.tmp 5) (.tmp 24), _, _, _, none⟩) rfl (fun K hK => ?_) AllReadyH.nil
    refine step_st 29 (.tmp 5) (.tmp 24) (by rfl) (by rfl) (by rfl) (f := 0) (by rfl) (l := rvs (true, n)) (by rfl) h5 (by show 0 + 2 ≤ 2; omega) sizeRs (one_rvs _) ?_
    intro x2 k5 G5
    have h5 := blk_all k5 (by show 2 ≤ 2; omega)
    have h4 := h4.keep (G5.block _ h4.lt (by intro e; injection e with e; omega))
    refine hK.out _ _ (hHeld.grow G5 (fun k hk => .inl (.inr (by injection hk with hk; exact hk.symm)))) (fun hHeld => ?_)
    clear hK K
    try simp only [Act.put, List.setIfInBounds_toArray, List.set_cons_zero, List.set_cons_succ]
    refine wpAnyH_done (by kernel_rfl) ?_ _
    refine NoPanic.normal ?_
    have hB := Ch.below_of hB hHeld (fun k hk => by rcases hk with rfl | rfl <;> omega) hB.size
    go_wp2
    refine ret_cell2 rfl rfl rfl h4.whole h5.whole Tryd.underlying26 rfl sizeCl Tryd.underlying29 rfl sizeRs rfl ?_
    exact ⟨by rw [Hd.out], hB⟩
  by_cases k3 : k = 3
  · subst k3
    have Hd : Hid (D = (⟨true, w64 (n + a)⟩, (true, w64 (n + a)))) := HD.out
    obtain ⟨z, hz'⟩ : ∃ z, z = w64 (n + a) := ⟨_, rfl⟩
    rw [← hz'] at Hd
    have Hz : Hid (wrap64 (n + a) = z) := hid ((IntWalk.i64_left _).symm.trans hz'.symm)
    clear hz'
    go_wp2_with (fail)
    rw [Hz.out]
    refine (value14_any z _).mono ?_
    rintro e w7 ⟨rfl, hB7⟩
    have h4 := b4.below hB7
    have h5 := b5.below hB7
    have hB := hB.trans (hB7.mono hB.size)
    clear b2 b3 b4 b5 c0 c1 d0 d2 d3
    go_wp2_with (first | refine wp_bld 29 [(0, .const (.bool true)), (1, .tmp 34)] rfl rfl [(0, .bool true), (1, .int .i64 z)] rfl (bldRv true z) ?_ | (refine wp_st 26 (.tmp 4) (.tmp 33) rfl rfl rfl (f := 0) rfl (l := Cl.l ⟨true, z⟩) rfl h4 (by show 0 + 2 ≤ 2; omega) sizeCl (one_cl _) ?_; intro x1 k4 G4; refine wp_st 29 (.tmp 5) (.tmp 35) rfl rfl rfl (f := 0) rfl (l := rvs (true, z)) rfl (h5.keep (G4.block _ h5.lt (by intro e; injection e with e; omega))) (by show 0 + 2 ≤ 2; omega) sizeRs (one_rvs _) ?_; intro x2 k5 G5))
    have h4 := (blk_all k4 (by show 2 ≤ 2; omega)).keep (G5.block _ k4.lt (by intro e; injection e with e; omega))
    have h5 := blk_all k5 (by show 2 ≤ 2; omega)
    have hB := (hB.grown G4 hB.size (by intro k hk; injection hk with hk; omega)).grown G5 (Nat.le_trans hB.size G4.size) (by intro k hk; injection hk with hk; omega)
    refine ret_cell2 rfl rfl rfl h4.whole h5.whole Tryd.underlying26 rfl sizeCl Tryd.underlying29 rfl sizeRs rfl ?_
    exact ⟨by rw [Hd.out], hB⟩
  by_cases k4 : k = 4
  · subst k4
    by_cases hh : t = true ∧ n = a
    · obtain ⟨rfl, rfl⟩ := hh
      have Hd : Hid (D = (⟨true, b⟩, (true, b))) := by show _ = _; rw [HD.out]; simp [dnC]
      go_upto_region 10 with (fail)
      refine wp_region_noPanic ?_
      refine wp_region_held_drew (S := Ch nob W) (by kernel_rfl) ((Ch.refl _ _).drew) (fun hHeld => ?_)
      refine wpAnyH_take (i := 0) (oi := ⟨some 38, .load 26 (.tmp 2), _, _, _, none⟩) (v := _) rfl (by kernel_rfl) (by kernel_rfl) (by kernel_rfl) (fun _ _ _ h => h) (yieldsIf_load_mid (by rfl) 26 (.tmp 2) (by rfl) _ (0) (by rfl) _ _ (fun _ hs => (X2.out _ (hs.weaken (fun _ _ e => e.elim))).whole) Tryd.underlying26 rfl (sizeCl)) (by assumption) ?_
      try simp only [Act.put, List.setIfInBounds_toArray, List.set_cons_zero, List.set_cons_succ]
      refine wpAnyH_take (i := 1) (oi := ⟨some 39, _, _, _, _, none⟩) (v := ?_) rfl (by kernel_rfl) (by kernel_rfl) (by kernel_rfl) (fun _ _ _ h => h) (Or.inl ⟨by rfl, ?_⟩) (by assumption) ?_
      rotate_left
      · intro w hSw; go_simp; try with_reducible rfl
      try simp only [Act.put, List.setIfInBounds_toArray, List.set_cons_zero, List.set_cons_succ]
      refine wpAnyH_take (i := 2) (oi := ⟨some 40, _, _, _, _, none⟩) (v := ?_) rfl (by kernel_rfl) (by kernel_rfl) (by kernel_rfl) (fun _ _ _ h => h) (Or.inl ⟨by rfl, ?_⟩) (by assumption) ?_
      rotate_left
      · intro w hSw; have hcw := X32.out w (hSw.weaken (fun _ _ e => e.elim)); go_simp; try with_reducible rfl
      try simp only [Act.put, List.setIfInBounds_toArray, List.set_cons_zero, List.set_cons_succ]
      refine wpAnyH_ready (rs := [3]) (by kernel_rfl) (by simp) ?_
      refine AllReadyH.cons (o := ⟨some 41, _, _, _, _, none⟩) rfl (fun K hK => ?_) AllReadyH.nil
      go_simp
      refine (value14_any n _).mono ?_
      rintro e' w7 ⟨rfl, hB7⟩
      refine hK.out _ _ (hHeld.belowR hB7) (fun hHeld => ?_)
      clear hK K
      try simp only [Act.put, List.setIfInBounds_toArray, List.set_cons_zero, List.set_cons_succ]
      refine wpAnyH_take (i := 4) (oi := ⟨some 42, _, _, _, _, none⟩) (v := ?_) rfl (by kernel_rfl) (by kernel_rfl) (by kernel_rfl) (fun _ _ _ h => h) (Or.inl ⟨by rfl, ?_⟩) (by assumption) ?_
      rotate_left
      · intro w hSw; unfold Cl.l; go_simp; try with_reducible rfl
      try simp only [Act.put, List.setIfInBounds_toArray, List.set_cons_zero, List.set_cons_succ]
      refine wpAnyH_done (by kernel_rfl) ?_ _
      refine NoPanic.normal ?_
      have b4 := b4.ch hHeld (fun e => e)
      have b5 := b5.ch hHeld (fun e => e)
      have b2 := b2.ch hHeld (fun e => e)
      have b3 := b3.ch hHeld (fun e => e)
      have c1 := b2.cellAt 1 _ rfl
      have d3 := b3.cellAt 3 _ rfl
      have hB := Ch.below_of hB hHeld (fun k hk => hk.elim) hB.size
      clear c0 d0 d2 X20 X21 X32 X33 X2 X3
      have X2 : Hid (∀ Z, Ch (fun y => y = g4 ∨ y = g5) w7 Z → Blk Z g2 26 (Cl.l ⟨true, n⟩)) := fun Z h => b2.ch h (by rintro (h | h) <;> omega)
      have X21 : Hid (∀ Z, Ch (fun y => y = g4 ∨ y = g5) w7 Z → Z.cell? ⟨g2, 1, none⟩ = some (.int .i64 n)) := fun Z h => (X2.out Z h).cellAt 1 _ rfl
      have X3 : Hid (∀ Z, Ch (fun y => y = g4 ∨ y = g5) w7 Z → Blk Z g3 51 (Ok.l ⟨4, y, n, b⟩)) := fun Z h => b3.ch h (by rintro (h | h) <;> omega)
      have X33 : Hid (∀ Z, Ch (fun y => y = g4 ∨ y = g5) w7 Z → Z.cell? ⟨g3, 3, none⟩ = some (.int .i64 b)) := fun Z h => (X3.out Z h).cellAt 3 _ rfl
      go_upto_region 12 with (fail)
      have h4 := b4.drew
      have h5 := b5.drew
      refine wp_region_noPanic ?_
      refine wp_region_held_drew (S := Ch (fun y => y = g4 ∨ y = g5) w7) (by kernel_rfl) ((Ch.refl _ _).drew) (fun hHeld => ?_)
      refine wpAnyH_take (i := 0) (oi := ⟨some 47, _, _, _, _, none⟩) (v := ?_) rfl (by kernel_rfl) (by kernel_rfl) (by kernel_rfl) (fun _ _ _ h => h) (Or.inl ⟨by rfl, ?_⟩) (by assumption) ?_
      rotate_left
      · intro w hSw; go_simp; try with_reducible rfl
      try simp only [Act.put, List.setIfInBounds_toArray, List.set_cons_zero, List.set_cons_succ]
      refine wpAnyH_take (i := 1) (oi := ⟨some 48, _, _, _, _, none⟩) (v := ?_) rfl (by kernel_rfl) (by kernel_rfl) (by kernel_rfl) (fun _ _ _ h => h) (Or.inl ⟨by rfl, ?_⟩) (by assumption) ?_
      rotate_left
      · intro w hSw; have hcw := X33.out w hSw; go_simp; try with_reducible rfl
      try simp only [Act.put, List.setIfInBounds_toArray, List.set_cons_zero, List.set_cons_succ]
      refine wpAnyH_take (i := 3) (oi := ⟨some 50, _, _, _, _, none⟩) (v := ?_) rfl (by kernel_rfl) (by kernel_rfl) (by kernel_rfl) (fun _ _ _ h => h) (Or.inl ⟨by rfl, ?_⟩) (by assumption) ?_
      rotate_left
      · intro w hSw; go_simp; try with_reducible rfl
      try simp only [Act.put, List.setIfInBounds_toArray, List.set_cons_zero, List.set_cons_succ]
      refine wpAnyH_take (i := 4) (oi := ⟨some 51, _, _, _, _, none⟩) (v := ?_) rfl (by kernel_rfl) (by kernel_rfl) (by kernel_rfl) (fun _ _ _ h => h) (Or.inl ⟨by rfl, ?_⟩) (by assumption) ?_
      rotate_left
      · intro w hSw; have hcw := X33.out w hSw; go_simp; try with_reducible rfl
      try simp only [Act.put, List.setIfInBounds_toArray, List.set_cons_zero, List.set_cons_succ]
      refine wpAnyH_take (i := 5) (oi := ⟨some 52, .build 29 #[(0, .const (.bool true)), (1, .tmp 51)], _, _, _, none⟩) (v := _) rfl (by kernel_rfl) (by kernel_rfl) (by kernel_rfl) (fun _ _ _ h => h) (y_bld (by rfl) 29 [(0, .const (.bool true)), (1, .tmp 51)] (by rfl) [(0, .bool true), (1, .int .i64 b)] (by rfl) (bldRv true b)) (by assumption) ?_
      try simp only [Act.put, List.setIfInBounds_toArray, List.set_cons_zero, List.set_cons_succ]
      refine wpAnyH_ready (rs := [2]) (by kernel_rfl) (by simp) ?_
      refine AllReadyH.cons (o := ⟨some 49, _, _, _, _, none⟩) rfl (fun K hK => ?_) AllReadyH.nil
      go_simp
      refine (value14_any b _).mono ?_
      rintro e' w7 ⟨rfl, hB7⟩
      have h4 := h4.below hB7
      have h5 := h5.below hB7
      refine hK.out _ _ (hHeld.belowR hB7) (fun hHeld => ?_)
      clear hK K
      try simp only [Act.put, List.setIfInBounds_toArray, List.set_cons_zero, List.set_cons_succ]
      refine wpAnyH_ready (rs := [6]) (by kernel_rfl) (by simp) ?_
      refine AllReadyH.cons (o := ⟨none, .store 26 (.tmp 4) (.tmp 49), _, _, _, none⟩) rfl (fun K hK => ?_) AllReadyH.nil
      refine step_st 26 (.tmp 4) (.tmp 49) (by rfl) (by rfl) (by rfl) (f := 0) (by rfl) (l := Cl.l ⟨true, b⟩) (by rfl) h4 (by show 0 + 2 ≤ 2; omega) sizeCl (one_cl _) ?_
      intro x1 k4 G4
      have h4 := blk_all k4 (by show 2 ≤ 2; omega)
      have h5 := h5.keep (G4.block _ h5.lt (by intro e; injection e with e; omega))
      refine hK.out _ _ (hHeld.grow G4 (fun k hk => .inl (.inl (by injection hk with hk; exact hk.symm)))) (fun hHeld => ?_)
      clear hK K
      try simp only [Act.put, List.setIfInBounds_toArray, List.set_cons_zero, List.set_cons_succ]
      refine wpAnyH_ready (rs := [7]) (by kernel_rfl) (by simp) ?_
      refine AllReadyH.cons (o := ⟨none, .store 29 (.tmp 5) (.tmp 52), _, _, _, none⟩) rfl (fun K hK => ?_) AllReadyH.nil
      refine step_st 29 (.tmp 5) (.tmp 52) (by rfl) (by rfl) (by rfl) (f := 0) (by rfl) (l := rvs (true, b)) (by rfl) h5 (by show 0 + 2 ≤ 2; omega) sizeRs (one_rvs _) ?_
      intro x2 k5 G5
      have h5 := blk_all k5 (by show 2 ≤ 2; omega)
      have h4 := h4.keep (G5.block _ h4.lt (by intro e; injection e with e; omega))
      refine hK.out _ _ (hHeld.grow G5 (fun k hk => .inl (.inr (by injection hk with hk; exact hk.symm)))) (fun hHeld => ?_)
      clear hK K
      try simp only [Act.put, List.setIfInBounds_toArray, List.set_cons_zero, List.set_cons_succ]
      refine wpAnyH_done (by kernel_rfl) ?_ _
      refine NoPanic.normal ?_
      have hB := Ch.below_of hB hHeld (fun k hk => by rcases hk with rfl | rfl <;> omega) hB.size
      go_wp2
      refine ret_cell2 rfl rfl rfl h4.whole h5.whole Tryd.underlying26 rfl sizeCl Tryd.underlying29 rfl sizeRs rfl ?_
      exact ⟨by rw [Hd.out], hB⟩
    · cases t with
      | false =>
        have Hd : Hid (D = (⟨false, n⟩, (false, n))) := by show _ = _; rw [HD.out]; simp [dnC]
        clear hh
        go_upto_region 10 with (fail)
        refine wp_region_noPanic ?_
        refine wp_region_held_drew (S := Ch nob W) (by kernel_rfl) ((Ch.refl _ _).drew) (fun hHeld => ?_)
        refine wpAnyH_take (i := 0) (oi := ⟨some 38, .load 26 (.tmp 2), _, _, _, none⟩) (v := _) rfl (by kernel_rfl) (by kernel_rfl) (by kernel_rfl) (fun _ _ _ h => h) (yieldsIf_load_mid (by rfl) 26 (.tmp 2) (by rfl) _ (0) (by rfl) _ _ (fun _ hs => (X2.out _ (hs.weaken (fun _ _ e => e.elim))).whole) Tryd.underlying26 rfl (sizeCl)) (by assumption) ?_
        try simp only [Act.put, List.setIfInBounds_toArray, List.set_cons_zero, List.set_cons_succ]
        refine wpAnyH_take (i := 1) (oi := ⟨some 39, _, _, _, _, none⟩) (v := ?_) rfl (by kernel_rfl) (by kernel_rfl) (by kernel_rfl) (fun _ _ _ h => h) (Or.inl ⟨by rfl, ?_⟩) (by assumption) ?_
        rotate_left
        · intro w hSw; go_simp; try with_reducible rfl
        try simp only [Act.put, List.setIfInBounds_toArray, List.set_cons_zero, List.set_cons_succ]
        refine wpAnyH_take (i := 2) (oi := ⟨some 40, _, _, _, _, none⟩) (v := ?_) rfl (by kernel_rfl) (by kernel_rfl) (by kernel_rfl) (fun _ _ _ h => h) (Or.inl ⟨by rfl, ?_⟩) (by assumption) ?_
        rotate_left
        · intro w hSw; have hcw := X32.out w (hSw.weaken (fun _ _ e => e.elim)); go_simp; try with_reducible rfl
        try simp only [Act.put, List.setIfInBounds_toArray, List.set_cons_zero, List.set_cons_succ]
        refine wpAnyH_ready (rs := [3]) (by kernel_rfl) (by simp) ?_
        refine AllReadyH.cons (o := ⟨some 41, _, _, _, _, none⟩) rfl (fun K hK => ?_) AllReadyH.nil
        go_simp
        refine (value14_any a _).mono ?_
        rintro e' w7 ⟨rfl, hB7⟩
        refine hK.out _ _ (hHeld.belowR hB7) (fun hHeld => ?_)
        clear hK K
        try simp only [Act.put, List.setIfInBounds_toArray, List.set_cons_zero, List.set_cons_succ]
        refine wpAnyH_take (i := 4) (oi := ⟨some 42, _, _, _, _, none⟩) (v := ?_) rfl (by kernel_rfl) (by kernel_rfl) (by kernel_rfl) (fun _ _ _ h => h) (Or.inl ⟨by rfl, ?_⟩) (by assumption) ?_
        rotate_left
        · intro w hSw; unfold Cl.l; go_simp; try with_reducible rfl
        try simp only [Act.put, List.setIfInBounds_toArray, List.set_cons_zero, List.set_cons_succ]
        refine wpAnyH_done (by kernel_rfl) ?_ _
        refine NoPanic.normal ?_
        have b4 := b4.ch hHeld (fun e => e)
        have b5 := b5.ch hHeld (fun e => e)
        have b2 := b2.ch hHeld (fun e => e)
        have b3 := b3.ch hHeld (fun e => e)
        have c1 := b2.cellAt 1 _ rfl
        have d3 := b3.cellAt 3 _ rfl
        have hB := Ch.below_of hB hHeld (fun k hk => hk.elim) hB.size
        clear c0 d0 d2 X20 X21 X32 X33 X2 X3
        have X2 : Hid (∀ Z, Ch (fun y => y = g4 ∨ y = g5) w7 Z → Blk Z g2 26 (Cl.l ⟨false, n⟩)) := fun Z h => b2.ch h (by rintro (h | h) <;> omega)
        have X21 : Hid (∀ Z, Ch (fun y => y = g4 ∨ y = g5) w7 Z → Z.cell? ⟨g2, 1, none⟩ = some (.int .i64 n)) := fun Z h => (X2.out Z h).cellAt 1 _ rfl
        have X3 : Hid (∀ Z, Ch (fun y => y = g4 ∨ y = g5) w7 Z → Blk Z g3 51 (Ok.l ⟨4, y, a, b⟩)) := fun Z h => b3.ch h (by rintro (h | h) <;> omega)
        have X33 : Hid (∀ Z, Ch (fun y => y = g4 ∨ y = g5) w7 Z → Z.cell? ⟨g3, 3, none⟩ = some (.int .i64 b)) := fun Z h => (X3.out Z h).cellAt 3 _ rfl
        go_upto_region 11 with (fail)
        have h4 := b4.drew
        have h5 := b5.drew
        refine wp_region_noPanic ?_
        refine wp_region_held_drew (S := Ch (fun y => y = g4 ∨ y = g5) w7) (by kernel_rfl) ((Ch.refl _ _).drew) (fun hHeld => ?_)
        refine wpAnyH_take (i := 0) (oi := ⟨some 43, .load 26 (.tmp 2), _, _, _, none⟩) (v := _) rfl (by kernel_rfl) (by kernel_rfl) (by kernel_rfl) (fun _ _ _ h => h) (yieldsIf_load_mid (by rfl) 26 (.tmp 2) (by rfl) _ (0) (by rfl) _ _ (fun _ hs => (X2.out _ hs).whole) Tryd.underlying26 rfl (sizeCl)) (by assumption) ?_
        try simp only [Act.put, List.setIfInBounds_toArray, List.set_cons_zero, List.set_cons_succ]
        refine wpAnyH_take (i := 1) (oi := ⟨some 44, _, _, _, _, none⟩) (v := ?_) rfl (by kernel_rfl) (by kernel_rfl) (by kernel_rfl) (fun _ _ _ h => h) (Or.inl ⟨by rfl, ?_⟩) (by assumption) ?_
        rotate_left
        · intro w hSw; go_simp; try with_reducible rfl
        try simp only [Act.put, List.setIfInBounds_toArray, List.set_cons_zero, List.set_cons_succ]
        refine wpAnyH_take (i := 2) (oi := ⟨some 45, _, _, _, _, none⟩) (v := ?_) rfl (by kernel_rfl) (by kernel_rfl) (by kernel_rfl) (fun _ _ _ h => h) (Or.inl ⟨by rfl, ?_⟩) (by assumption) ?_
        rotate_left
        · intro w hSw; have hcw := X21.out w hSw; go_simp; try with_reducible rfl
        try simp only [Act.put, List.setIfInBounds_toArray, List.set_cons_zero, List.set_cons_succ]
        refine wpAnyH_take (i := 3) (oi := ⟨some 46, .build 29 #[(1, .tmp 45)], _, _, _, none⟩) (v := _) rfl (by kernel_rfl) (by kernel_rfl) (by kernel_rfl) (fun _ _ _ h => h) (y_bld (by rfl) 29 [(1, .tmp 45)] (by rfl) [(1, .int .i64 n)] (by rfl) (bldRn n)) (by assumption) ?_
        try simp only [Act.put, List.setIfInBounds_toArray, List.set_cons_zero, List.set_cons_succ]
        refine wpAnyH_ready (rs := [4]) (by kernel_rfl) (by simp) ?_
        refine AllReadyH.cons (o := ⟨none, .store 26 (.tmp 4) (.tmp 43), _, _, _, none⟩) rfl (fun K hK => ?_) AllReadyH.nil
        refine step_st 26 (.tmp 4) (.tmp 43) (by rfl) (by rfl) (by rfl) (f := 0) (by rfl) (l := (Cl.l ⟨false, n⟩)) (by rfl) h4 (by show 0 + 2 ≤ 2; omega) sizeCl (one_cl _) ?_
        intro x1 k4 G4
        have h4 := blk_all k4 (by show 2 ≤ 2; omega)
        have h5 := h5.keep (G4.block _ h5.lt (by intro e; injection e with e; omega))
        refine hK.out _ _ (hHeld.grow G4 (fun k hk => .inl (.inl (by injection hk with hk; exact hk.symm)))) (fun hHeld => ?_)
        clear hK K
        try simp only [Act.put, List.setIfInBounds_toArray, List.set_cons_zero, List.set_cons_succ]
        refine wpAnyH_ready (rs := [5]) (by kernel_rfl) (by simp) ?_
        refine AllReadyH.cons (o := ⟨none, .store 29 (.tmp 5) (.tmp 46), _, _, _, none⟩) rfl (fun K hK => ?_) AllReadyH.nil
        refine step_st 29 (.tmp 5) (.tmp 46) (by rfl) (by rfl) (by rfl) (f := 0) (by rfl) (l := rvs (false, n)) (by rfl) h5 (by show 0 + 2 ≤ 2; omega) sizeRs (one_rvs _) ?_
        intro x2 k5 G5
        have h5 := blk_all k5 (by show 2 ≤ 2; omega)
        have h4 := h4.keep (G5.block _ h4.lt (by intro e; injection e with e; omega))
        refine hK.out _ _ (hHeld.grow G5 (fun k hk => .inl (.inr (by injection hk with hk; exact hk.symm)))) (fun hHeld => ?_)
        clear hK K
        try simp only [Act.put, List.setIfInBounds_toArray, List.set_cons_zero, List.set_cons_succ]
        refine wpAnyH_done (by kernel_rfl) ?_ _
        refine NoPanic.normal ?_
        have hB := Ch.below_of hB hHeld (fun k hk => by rcases hk with rfl | rfl <;> omega) hB.size
        go_wp2
        refine ret_cell2 rfl rfl rfl h4.whole h5.whole Tryd.underlying26 rfl sizeCl Tryd.underlying29 rfl sizeRs rfl ?_
        exact ⟨by rw [Hd.out], hB⟩
      | true =>
        have hna : ¬ n = a := fun h => hh ⟨rfl, h⟩
        have Hd : Hid (D = (⟨true, n⟩, (false, n))) := by show _ = _; rw [HD.out]; simp [dnC, hna]
        clear hh
        go_upto_region 10 with (fail)
        refine wp_region_noPanic ?_
        refine wp_region_held_drew (S := Ch nob W) (by kernel_rfl) ((Ch.refl _ _).drew) (fun hHeld => ?_)
        refine wpAnyH_take (i := 0) (oi := ⟨some 38, .load 26 (.tmp 2), _, _, _, none⟩) (v := _) rfl (by kernel_rfl) (by kernel_rfl) (by kernel_rfl) (fun _ _ _ h => h) (yieldsIf_load_mid (by rfl) 26 (.tmp 2) (by rfl) _ (0) (by rfl) _ _ (fun _ hs => (X2.out _ (hs.weaken (fun _ _ e => e.elim))).whole) Tryd.underlying26 rfl (sizeCl)) (by assumption) ?_
        try simp only [Act.put, List.setIfInBounds_toArray, List.set_cons_zero, List.set_cons_succ]
        refine wpAnyH_take (i := 1) (oi := ⟨some 39, _, _, _, _, none⟩) (v := ?_) rfl (by kernel_rfl) (by kernel_rfl) (by kernel_rfl) (fun _ _ _ h => h) (Or.inl ⟨by rfl, ?_⟩) (by assumption) ?_
        rotate_left
        · intro w hSw; go_simp; try with_reducible rfl
        try simp only [Act.put, List.setIfInBounds_toArray, List.set_cons_zero, List.set_cons_succ]
        refine wpAnyH_take (i := 2) (oi := ⟨some 40, _, _, _, _, none⟩) (v := ?_) rfl (by kernel_rfl) (by kernel_rfl) (by kernel_rfl) (fun _ _ _ h => h) (Or.inl ⟨by rfl, ?_⟩) (by assumption) ?_
        rotate_left
        · intro w hSw; have hcw := X32.out w (hSw.weaken (fun _ _ e => e.elim)); go_simp; try with_reducible rfl
        try simp only [Act.put, List.setIfInBounds_toArray, List.set_cons_zero, List.set_cons_succ]
        refine wpAnyH_ready (rs := [3]) (by kernel_rfl) (by simp) ?_
        refine AllReadyH.cons (o := ⟨some 41, _, _, _, _, none⟩) rfl (fun K hK => ?_) AllReadyH.nil
        go_simp
        refine (value14_any a _).mono ?_
        rintro e' w7 ⟨rfl, hB7⟩
        refine hK.out _ _ (hHeld.belowR hB7) (fun hHeld => ?_)
        clear hK K
        try simp only [Act.put, List.setIfInBounds_toArray, List.set_cons_zero, List.set_cons_succ]
        refine wpAnyH_take (i := 4) (oi := ⟨some 42, _, _, _, _, none⟩) (v := ?_) rfl (by kernel_rfl) (by kernel_rfl) (by kernel_rfl) (fun _ _ _ h => h) (Or.inl ⟨by rfl, ?_⟩) (by assumption) ?_
        rotate_left
        · intro w hSw; unfold Cl.l; go_simp; try with_reducible rfl
        try simp only [Act.put, List.setIfInBounds_toArray, List.set_cons_zero, List.set_cons_succ]
        refine wpAnyH_done (by kernel_rfl) ?_ _
        refine NoPanic.normal ?_
        have b4 := b4.ch hHeld (fun e => e)
        have b5 := b5.ch hHeld (fun e => e)
        have b2 := b2.ch hHeld (fun e => e)
        have b3 := b3.ch hHeld (fun e => e)
        have c1 := b2.cellAt 1 _ rfl
        have d3 := b3.cellAt 3 _ rfl
        have hB := Ch.below_of hB hHeld (fun k hk => hk.elim) hB.size
        clear c0 d0 d2 X20 X21 X32 X33 X2 X3
        have X2 : Hid (∀ Z, Ch (fun y => y = g4 ∨ y = g5) w7 Z → Blk Z g2 26 (Cl.l ⟨true, n⟩)) := fun Z h => b2.ch h (by rintro (h | h) <;> omega)
        have X21 : Hid (∀ Z, Ch (fun y => y = g4 ∨ y = g5) w7 Z → Z.cell? ⟨g2, 1, none⟩ = some (.int .i64 n)) := fun Z h => (X2.out Z h).cellAt 1 _ rfl
        have X3 : Hid (∀ Z, Ch (fun y => y = g4 ∨ y = g5) w7 Z → Blk Z g3 51 (Ok.l ⟨4, y, a, b⟩)) := fun Z h => b3.ch h (by rintro (h | h) <;> omega)
        have X33 : Hid (∀ Z, Ch (fun y => y = g4 ∨ y = g5) w7 Z → Z.cell? ⟨g3, 3, none⟩ = some (.int .i64 b)) := fun Z h => (X3.out Z h).cellAt 3 _ rfl
        go_upto_region 11 with (fail)
        have h4 := b4.drew
        have h5 := b5.drew
        refine wp_region_noPanic ?_
        refine wp_region_held_drew (S := Ch (fun y => y = g4 ∨ y = g5) w7) (by kernel_rfl) ((Ch.refl _ _).drew) (fun hHeld => ?_)
        refine wpAnyH_take (i := 0) (oi := ⟨some 43, .load 26 (.tmp 2), _, _, _, none⟩) (v := _) rfl (by kernel_rfl) (by kernel_rfl) (by kernel_rfl) (fun _ _ _ h => h) (yieldsIf_load_mid (by rfl) 26 (.tmp 2) (by rfl) _ (0) (by rfl) _ _ (fun _ hs => (X2.out _ hs).whole) Tryd.underlying26 rfl (sizeCl)) (by assumption) ?_
        try simp only [Act.put, List.setIfInBounds_toArray, List.set_cons_zero, List.set_cons_succ]
        refine wpAnyH_take (i := 1) (oi := ⟨some 44, _, _, _, _, none⟩) (v := ?_) rfl (by kernel_rfl) (by kernel_rfl) (by kernel_rfl) (fun _ _ _ h => h) (Or.inl ⟨by rfl, ?_⟩) (by assumption) ?_
        rotate_left
        · intro w hSw; go_simp; try with_reducible rfl
        try simp only [Act.put, List.setIfInBounds_toArray, List.set_cons_zero, List.set_cons_succ]
        refine wpAnyH_take (i := 2) (oi := ⟨some 45, _, _, _, _, none⟩) (v := ?_) rfl (by kernel_rfl) (by kernel_rfl) (by kernel_rfl) (fun _ _ _ h => h) (Or.inl ⟨by rfl, ?_⟩) (by assumption) ?_
        rotate_left
        · intro w hSw; have hcw := X21.out w hSw; go_simp; try with_reducible rfl
        try simp only [Act.put, List.setIfInBounds_toArray, List.set_cons_zero, List.set_cons_succ]
        refine wpAnyH_take (i := 3) (oi := ⟨some 46, .build 29 #[(1, .tmp 45)], _, _, _, none⟩) (v := _) rfl (by kernel_rfl) (by kernel_rfl) (by kernel_rfl) (fun _ _ _ h => h) (y_bld (by rfl) 29 [(1, .tmp 45)] (by rfl) [(1, .int .i64 n)] (by rfl) (bldRn n)) (by assumption) ?_
        try simp only [Act.put, List.setIfInBounds_toArray, List.set_cons_zero, List.set_cons_succ]
        refine wpAnyH_ready (rs := [4]) (by kernel_rfl) (by simp) ?_
        refine AllReadyH.cons (o := ⟨none, .store 26 (.tmp 4) (.tmp 43), _, _, _, none⟩) rfl (fun K hK => ?_) AllReadyH.nil
        refine step_st 26 (.tmp 4) (.tmp 43) (by rfl) (by rfl) (by rfl) (f := 0) (by rfl) (l := (Cl.l ⟨true, n⟩)) (by rfl) h4 (by show 0 + 2 ≤ 2; omega) sizeCl (one_cl _) ?_
        intro x1 k4 G4
        have h4 := blk_all k4 (by show 2 ≤ 2; omega)
        have h5 := h5.keep (G4.block _ h5.lt (by intro e; injection e with e; omega))
        refine hK.out _ _ (hHeld.grow G4 (fun k hk => .inl (.inl (by injection hk with hk; exact hk.symm)))) (fun hHeld => ?_)
        clear hK K
        try simp only [Act.put, List.setIfInBounds_toArray, List.set_cons_zero, List.set_cons_succ]
        refine wpAnyH_ready (rs := [5]) (by kernel_rfl) (by simp) ?_
        refine AllReadyH.cons (o := ⟨none, .store 29 (.tmp 5) (.tmp 46), _, _, _, none⟩) rfl (fun K hK => ?_) AllReadyH.nil
        refine step_st 29 (.tmp 5) (.tmp 46) (by rfl) (by rfl) (by rfl) (f := 0) (by rfl) (l := rvs (false, n)) (by rfl) h5 (by show 0 + 2 ≤ 2; omega) sizeRs (one_rvs _) ?_
        intro x2 k5 G5
        have h5 := blk_all k5 (by show 2 ≤ 2; omega)
        have h4 := h4.keep (G5.block _ h4.lt (by intro e; injection e with e; omega))
        refine hK.out _ _ (hHeld.grow G5 (fun k hk => .inl (.inr (by injection hk with hk; exact hk.symm)))) (fun hHeld => ?_)
        clear hK K
        try simp only [Act.put, List.setIfInBounds_toArray, List.set_cons_zero, List.set_cons_succ]
        refine wpAnyH_done (by kernel_rfl) ?_ _
        refine NoPanic.normal ?_
        have hB := Ch.below_of hB hHeld (fun k hk => by rcases hk with rfl | rfl <;> omega) hB.size
        go_wp2
        refine ret_cell2 rfl rfl rfl h4.whole h5.whole Tryd.underlying26 rfl sizeCl Tryd.underlying29 rfl sizeRs rfl ?_
        exact ⟨by rw [Hd.out], hB⟩
  by_cases k5 : k = 5
  · subst k5
    have Hd : Hid (D = (zC, (t, n))) := HD.out
    go_upto_region 14 with (fail)
    have h4 := b4.drew
    have h5 := b5.drew
    refine wp_region_noPanic ?_
    refine wp_region_held_drew (S := Ch (fun y => y = g4 ∨ y = g5) W) (by kernel_rfl) ((Ch.refl _ _).drew) (fun hHeld => ?_)
    refine wpAnyH_take (i := 0) (oi := ⟨some 55, .build 26 #[], _, _, _, none⟩) (v := _) rfl (by kernel_rfl) (by kernel_rfl) (by kernel_rfl) (fun _ _ _ h => h) (y_bld (by rfl) 26 [] (by rfl) [] (by rfl) bldCz) (by assumption) ?_
    try simp only [Act.put, List.setIfInBounds_toArray, List.set_cons_zero, List.set_cons_succ]
    refine wpAnyH_take (i := 1) (oi := ⟨some 56, _, _, _, _, none⟩) (v := ?_) rfl (by kernel_rfl) (by kernel_rfl) (by kernel_rfl) (fun _ _ _ h => h) (Or.inl ⟨by rfl, ?_⟩) (by assumption) ?_
    rotate_left
    · intro w hSw; go_simp; try with_reducible rfl
    try simp only [Act.put, List.setIfInBounds_toArray, List.set_cons_zero, List.set_cons_succ]
    refine wpAnyH_take (i := 2) (oi := ⟨some 57, _, _, _, _, none⟩) (v := ?_) rfl (by kernel_rfl) (by kernel_rfl) (by kernel_rfl) (fun _ _ _ h => h) (Or.inl ⟨by rfl, ?_⟩) (by assumption) ?_
    rotate_left
    · intro w hSw; have hcw := X20.out w hSw; go_simp; try with_reducible rfl
    try simp only [Act.put, List.setIfInBounds_toArray, List.set_cons_zero, List.set_cons_succ]
    refine wpAnyH_take (i := 3) (oi := ⟨some 58, _, _, _, _, none⟩) (v := ?_) rfl (by kernel_rfl) (by kernel_rfl) (by kernel_rfl) (fun _ _ _ h => h) (Or.inl ⟨by rfl, ?_⟩) (by assumption) ?_
    rotate_left
    · intro w hSw; go_simp; try with_reducible rfl
    try simp only [Act.put, List.setIfInBounds_toArray, List.set_cons_zero, List.set_cons_succ]
    refine wpAnyH_take (i := 4) (oi := ⟨some 59, _, _, _, _, none⟩) (v := ?_) rfl (by kernel_rfl) (by kernel_rfl) (by kernel_rfl) (fun _ _ _ h => h) (Or.inl ⟨by rfl, ?_⟩) (by assumption) ?_
    rotate_left
    · intro w hSw; have hcw := X21.out w hSw; go_simp; try with_reducible rfl
    try simp only [Act.put, List.setIfInBounds_toArray, List.set_cons_zero, List.set_cons_succ]
    refine wpAnyH_take (i := 5) (oi := ⟨some 60, .build 29 #[(0, .tmp 57), (1, .tmp 59)], _, _, _, none⟩) (v := _) rfl (by kernel_rfl) (by kernel_rfl) (by kernel_rfl) (fun _ _ _ h => h) (y_bld (by rfl) 29 [(0, .tmp 57), (1, .tmp 59)] (by rfl) [(0, .bool t), (1, .int .i64 n)] (by rfl) (bldRv t n)) (by assumption) ?_
    try simp only [Act.put, List.setIfInBounds_toArray, List.set_cons_zero, List.set_cons_succ]
    refine wpAnyH_ready (rs := [6]) (by kernel_rfl) (by simp) ?_
    refine AllReadyH.cons (o := ⟨none, .store 26 (.tmp 4) (.tmp 55), _, _, _, none⟩) rfl (fun K hK => ?_) AllReadyH.nil
    refine step_st 26 (.tmp 4) (.tmp 55) (by rfl) (by rfl) (by rfl) (f := 0) (by rfl) (l := zC.l) (by rfl) h4 (by show 0 + 2 ≤ 2; omega) sizeCl (one_cl _) ?_
    intro x1 k4 G4
    have h4 := blk_all k4 (by show 2 ≤ 2; omega)
    have h5 := h5.keep (G4.block _ h5.lt (by intro e; injection e with e; omega))
    refine hK.out _ _ (hHeld.grow G4 (fun k hk => .inl (.inl (by injection hk with hk; exact hk.symm)))) (fun hHeld => ?_)
    clear hK K
    try simp only [Act.put, List.setIfInBounds_toArray, List.set_cons_zero, List.set_cons_succ]
    refine wpAnyH_ready (rs := [7]) (by kernel_rfl) (by simp) ?_
    refine AllReadyH.cons (o := ⟨none, .store 29 (.tmp 5) (.tmp 60), _, _, _, none⟩) rfl (fun K hK => ?_) AllReadyH.nil
    refine step_st 29 (.tmp 5) (.tmp 60) (by rfl) (by rfl) (by rfl) (f := 0) (by rfl) (l := rvs (t, n)) (by rfl) h5 (by show 0 + 2 ≤ 2; omega) sizeRs (one_rvs _) ?_
    intro x2 k5 G5
    have h5 := blk_all k5 (by show 2 ≤ 2; omega)
    have h4 := h4.keep (G5.block _ h4.lt (by intro e; injection e with e; omega))
    refine hK.out _ _ (hHeld.grow G5 (fun k hk => .inl (.inr (by injection hk with hk; exact hk.symm)))) (fun hHeld => ?_)
    clear hK K
    try simp only [Act.put, List.setIfInBounds_toArray, List.set_cons_zero, List.set_cons_succ]
    refine wpAnyH_done (by kernel_rfl) ?_ _
    refine NoPanic.normal ?_
    have hB := Ch.below_of hB hHeld (fun k hk => by rcases hk with rfl | rfl <;> omega) hB.size
    go_wp2
    refine ret_cell2 rfl rfl rfl h4.whole h5.whole Tryd.underlying26 rfl sizeCl Tryd.underlying29 rfl sizeRs rfl ?_
    exact ⟨by rw [Hd.out], hB⟩
  have Hd : Hid (D = (⟨t, n⟩, (false, 0))) := by show _ = _; rw [HD.out]; exact dn_bad _ _ (by show ¬ (1 ≤ k ∧ k ≤ 5); omega)
  go_wp2_with (first | refine wp_ld 26 (.tmp 2) rfl rfl rfl b2.whole Tryd.underlying26 rfl sizeCl ?_ | refine wp_bld 29 [] rfl rfl [] rfl bldRs ?_ | (refine wp_st 26 (.tmp 4) (.tmp 61) rfl rfl rfl (f := 0) rfl (l := Cl.l ⟨t, n⟩) rfl b4 (by show 0 + 2 ≤ 2; omega) sizeCl (one_cl _) ?_; intro x1 k4 G4; refine wp_st 29 (.tmp 5) (.tmp 62) rfl rfl rfl (f := 0) rfl (l := rvs (false, 0)) rfl (b5.keep (G4.block _ b5.lt (by intro e; injection e with e; omega))) (by show 0 + 2 ≤ 2; omega) sizeRs (one_rvs _) ?_; intro x2 k5 G5))
  have h4 := (blk_all k4 (by show 2 ≤ 2; omega)).keep (G5.block _ k4.lt (by intro e; injection e with e; omega))
  have h5 := blk_all k5 (by show 2 ≤ 2; omega)
  have hB := (hB.grown G4 hB.size (by intro k hk; injection hk with hk; omega)).grown G5 (Nat.le_trans hB.size G4.size) (by intro k hk; injection hk with hk; omega)
  refine ret_cell2 rfl rfl rfl h4.whole h5.whole Tryd.underlying26 rfl sizeCl Tryd.underlying29 rfl sizeRs rfl ?_
  exact ⟨by rw [Hd.out], hB⟩
end Go.Proofs.YtfjgfaccfjdklaaDoor
/- UC: layer 14: contracts of kv over the landed code: Do, Put. -/
namespace Go.Proofs.YtfjgfaccfjdklaaDoor
open Go.RowKit Go.V
theorem do_pure (c : List Cl) (o : Ok) (hc : ClIn c) (h0 : 0 ≤ o.y) (h1 : o.y ≤ 15) (x : Cl) (hx : (stF c)[o.y.toNat]? = some x) :
    nmF ((stF c).set o.y.toNat (dnC x o).1) = (doK (nmF c) o).1 ∧ (dnC x o).2 = (doK (nmF c) o).2 := by
  have hz := st_zero (List.mem_of_getElem? hx)
  have hg := nmF_at hx
  rw [nm_st] at hg
  rw [nm_set, nm_st]
  unfold doK
  by_cases hk : goodK o
  · obtain ⟨e1, e2⟩ := dn_good x o hz hk
    rw [if_pos hk, hg]
    exact ⟨by rw [e1], e2⟩
  · rw [if_neg hk, dn_bad x o (fun h => hk ⟨⟨h0, h1⟩, h⟩)]
    refine ⟨?_, rfl⟩
    show (nmF c).set o.y.toNat (nmC x) = nmF c
    rw [← hg]
    exact set_same (by unfold nmF; rw [List.length_map, hc.len]; omega)
theorem dn_zero {x : Cl} {o : Ok} (hx : x.t = false → x.n = 0) : (dnC x o).1.t = false → (dnC x o).1.n = 0 := by
  unfold dnC
  split
  · exact hx
  · split
    · intro h; cases h
    · split
      · intro h; cases h
      · split
        · split
          · intro h; cases h
          · exact hx
        · split
          · intro _; rfl
          · exact hx
theorem set_zero {c : List Cl} (h : ∀ y ∈ c, y.t = false → y.n = 0) (i : Nat) {x : Cl} (hx : x.t = false → x.n = 0) : ∀ y ∈ c.set i x, y.t = false → y.n = 0 := by
  intro y hy
  rcases List.mem_or_eq_of_mem_set hy with hy | rfl
  · exact h y hy
  · exact hx
set_option maxRecDepth 100000 in
set_option maxHeartbeats 8000000 in
theorem kvdo15_any (c : List Cl) (o : Ok) (w : World) (hc : ClIn c) (ho : OkIn o) :
    Calls Tryd.prog 55 #[.agg (cvs c).toArray, .agg o.l.toArray] w fun e w' => ∃ c', e = .returned (.tuple #[.agg (cvs c').toArray, .agg (rvs (doK (nmF c) o).2).toArray]) ∧ ClIn c' ∧ nmF c' = (doK (nmF c) o).1 ∧ (∀ x ∈ c', x.t = false → x.n = 0) ∧ Below w.heap.size w w' := by
  have hdp := hid (do_pure c o hc)
  have hbad : Hid (¬ (0 ≤ o.y ∧ o.y ≤ 15) → doK (nmF c) o = (nmF c, (false, 0))) := fun h => if_neg (fun h' => h h'.1)
  obtain ⟨D, hD⟩ : ∃ D, D = doK (nmF c) o := ⟨_, rfl⟩
  rw [← hD] at hdp hbad ⊢
  clear hD
  have Lc := hid (show (cvs c).length = 32 by rw [len_cvs, hc.len])
  have Ls := hid (show (cvs (stF c)).length = 32 by rw [len_cvs, (st_in hc).len])
  have Hset := hid (fun X => settled14_any c X hc)
  have Hin := hid (st_in hc)
  have Hnm := hid (nm_st c)
  have hsl : (stF c).length = 16 := (st_in hc).len
  have hse := hid (cvs_at (stF c))
  have hss := hid (fun i y => cvs_set (stF c) i y)
  have hsin := hid (fun (y : Cl) (hy : y ∈ stF c) => (st_in hc).n y hy)
  have Hz := hid (fun (y : Cl) (hy : y ∈ stF c) => st_zero hy)
  obtain ⟨sc, hsc⟩ : ∃ s, s = stF c := ⟨_, rfl⟩
  rw [← hsc] at hdp Ls Hset Hin Hnm hsl hse hss hsin Hz
  clear hsc hc
  obtain ⟨W, hW, b2, b3, b4, b5, hB⟩ := alloc4 w 27 51 27 29 (cvs c) o.l zCs (rvs (false, 0))
  have b4 : Blk W (w.heap.size + 1 + 1) 27 zCs := b4
  have b5 : Blk W (w.heap.size + 1 + 1 + 1) 29 (rvs (false, 0)) := b5
  obtain ⟨cc, hcc⟩ : ∃ q, q = cvs c := ⟨_, rfl⟩
  rw [← hcc] at hW b2 Lc Hset ⊢
  clear hcc
  obtain ⟨cs, hcs⟩ : ∃ q, q = cvs sc := ⟨_, rfl⟩
  rw [← hcs] at Ls Hset hse hss
  have Hcs := hid hcs
  have Hco := hid (show ∀ v ∈ cs, v.oneCell' = true by rw [hcs]; exact one_cvs _)
  clear hcs
  obtain ⟨k, y, a, b⟩ := o
  obtain ⟨hik, hiy, hia, hib⟩ := ho
  dsimp only at hik hiy hia hib hdp hbad
  go_enter Tryd.func55, Tryd.ntmps55
  go_wp2_with (first | (refine wp_new 27 rfl rfl zeroCs ?_; refine wp_new 29 rfl rfl zeroRs ?_; refine wp_stop ?_))
  rw [← hW]
  clear hW
  obtain ⟨g5, hg5⟩ : ∃ g, g = w.heap.size + 1 + 1 + 1 := ⟨_, rfl⟩
  rw [← hg5] at b5 ⊢
  obtain ⟨g4, hg4⟩ : ∃ g, g = w.heap.size + 1 + 1 := ⟨_, rfl⟩
  rw [← hg4] at b4 ⊢
  obtain ⟨g3, hg3⟩ : ∃ g, g = w.heap.size + 1 := ⟨_, rfl⟩
  rw [← hg3] at b3 ⊢
  obtain ⟨g2, hg2⟩ : ∃ g, g = w.heap.size := ⟨_, rfl⟩
  rw [← hg2] at b2 ⊢
  have hw2 : w.heap.size ≤ g2 := by omega
  have h23 : g2 < g3 := by omega
  have h34 : g3 < g4 := by omega
  have h45 : g4 < g5 := by omega
  clear hg2 hg3 hg4 hg5
  refine wp_go ?_
  go_wp2_with (refine wp_ld 27 (.tmp 2) rfl rfl rfl b2.whole Tryd.underlying27 rfl (by rw [Lc.out]; exact sizeCs) ?_)
  refine (Hset.out _).mono ?_
  rintro e w1 ⟨rfl, hB1⟩
  have b2 := b2.below hB1
  have b3 := b3.below hB1
  have b4 := b4.below hB1
  have b5 := b5.below hB1
  have hB := hB.trans (hB1.mono hB.size)
  go_wp2_with (refine wp_st 27 (.tmp 2) (.tmp 9) rfl rfl rfl (f := 0) rfl (l := cs) rfl b2 (by rw [Ls.out, Lc.out]; omega) (by rw [Ls.out]; exact sizeCs) Hco.out ?_; intro w2 k2 G2; refine wp_stop ?_)
  have b2 := blk_all k2 (by rw [Ls.out, Lc.out]; omega)
  have b3 := b3.keep (G2.block _ b3.lt (by intro e; injection e with e; omega))
  have b4 := b4.keep (G2.block _ b4.lt (by intro e; injection e with e; omega))
  have b5 := b5.keep (G2.block _ b5.lt (by intro e; injection e with e; omega))
  have hB := hB.grown G2 hB.size (by intro k hk; injection hk with hk; omega)
  clear k2 G2 hB1 Hset Lc
  have d1 := b3.cellAt 1 _ rfl
  refine wp_go ?_
  go_wp2_with (fail)
  refine (isKey14_any y _).mono ?_
  rintro e w3 ⟨rfl, hB3⟩
  have b2 := b2.below hB3
  have b3 := b3.below hB3
  have b4 := b4.below hB3
  have b5 := b5.below hB3
  have hB := hB.trans (hB3.mono hB.size)
  clear hB3 d1
  by_cases hy : 0 ≤ y ∧ y ≤ 15
  · have hdt : decide (0 ≤ y ∧ y ≤ 15) = true := decide_eq_true hy
    rw [hdt]
    clear hdt hbad
    obtain ⟨hy0, hy1⟩ := hy
    have hdp := hid (fun x => hdp.out hy0 hy1 x)
    obtain ⟨i, rfl⟩ : ∃ i : Nat, y = (i : Int) := ⟨y.toNat, by omega⟩
    have hi : i < 16 := by omega
    rw [Int.toNat_natCast] at hdp
    clear hy0 hy1
    obtain ⟨x, hx⟩ : ∃ x, sc[i]? = some x := ⟨_, List.getElem?_eq_getElem (by omega)⟩
    have hdp := hdp.out x hx
    have hdi := dn_in (x := x) (o := ⟨k, i, a, b⟩) (hsin.out x (List.mem_of_getElem? hx)) ⟨hik, hiy, hia, hib⟩
    obtain ⟨e1, e2⟩ := hse.out i x hx
    have hdn := hid (fun X => done14_any x ⟨k, i, a, b⟩ X)
    have hdz := dn_zero (x := x) (o := ⟨k, i, a, b⟩) (Hz.out x (List.mem_of_getElem? hx))
    obtain ⟨R, hR⟩ : ∃ R, R = dnC x ⟨k, i, a, b⟩ := ⟨_, rfl⟩
    rw [← hR] at hdp hdi hdn hdz
    clear hR
    obtain ⟨x', r⟩ := R
    have Hp1 := hid hdp.1
    have Hp2 : Hid (r = D.2) := hdp.2
    have Hdi := hid hdi
    have Hdz : Hid (x'.t = false → x'.n = 0) := hid hdz
    clear hdz
    dsimp only at hdn
    clear hdi hx hdp
    have hr2 : ∀ Z, Ch nob w3 Z → Z.rangeAt g2 (0 + i * 2) x.l := fun Z h => (b2.ch h (fun e => e)).range (0 + i * 2) _ (fun j v hv => by
      rw [Nat.zero_add]
      match j with
      | 0 => simp [Cl.l] at hv; subst hv; rw [Nat.mul_comm]; exact e1
      | 1 => simp [Cl.l] at hv; subst hv; rw [Nat.mul_comm]; exact e2
      | j + 2 => simp [Cl.l] at hv)
    have X2 := hid hr2
    have X3 := hid (fun Z (h : Ch nob w3 Z) => (b3.ch h (fun e => e)).whole)
    have X31 := hid (fun Z (h : Ch nob w3 Z) => (b3.ch h (fun e => e)).cellAt 1 (.int .i64 (i : Int)) rfl)
    clear hr2 e1 e2
    go_upto_region 4 with (fail)
    go_cut [6, 7] (fun s6 s7 wx => ∃ g6 g7, s6 = .pointer (some ⟨g6, 0, none⟩) ∧ s7 = .pointer (some ⟨g7, 0, none⟩) ∧ w3.heap.size ≤ g6 ∧ w3.heap.size ≤ g7 ∧ Blk wx g6 26 x'.l ∧ Blk wx g7 29 (rvs r) ∧ Ch nob w3 wx)
    case first =>
      refine wp_region_noPanic ?_
      refine wp_region_held_drew (S := Ch nob w3) (by kernel_rfl) ((Ch.refl _ _).drew) (fun hHeld => ?_)
      refine wpAnyH_take (i := 0) (oi := ⟨some 17, _, _, _, _, none⟩) (v := ?_) rfl (by kernel_rfl) (by kernel_rfl) (by kernel_rfl) (fun _ _ _ h => h) (Or.inl ⟨by rfl, ?_⟩) (by assumption) ?_
      rotate_left
      · intro w hSw; go_simp; try with_reducible rfl
      try simp only [Act.put, List.setIfInBounds_toArray, List.set_cons_zero, List.set_cons_succ]
      refine wpAnyH_take (i := 1) (oi := ⟨some 18, _, _, _, _, none⟩) (v := ?_) rfl (by kernel_rfl) (by kernel_rfl) (by kernel_rfl) (fun _ _ _ h => h) (Or.inl ⟨by rfl, ?_⟩) (by assumption) ?_
      rotate_left
      · intro w hSw; have hcw := X31.out w hSw; go_simp; try with_reducible rfl
      try simp only [Act.put, List.setIfInBounds_toArray, List.set_cons_zero, List.set_cons_succ]
      refine wpAnyH_take (i := 2) (oi := ⟨some 19, _, _, _, _, none⟩) (v := _) rfl (by kernel_rfl) (by kernel_rfl) (by kernel_rfl) (fun _ _ _ h => h) (yi_ixp (by rfl) 27 (.tmp 2) (.tmp 18) (by rfl) (by rfl) (i := i) (by rfl) Tryd.underlying27 hi sizeCl) (by assumption) ?_
      try simp only [Act.put, List.setIfInBounds_toArray, List.set_cons_zero, List.set_cons_succ]
      refine wpAnyH_take (i := 3) (oi := ⟨some 20, .load 26 (.tmp 19), _, _, _, none⟩) (v := _) rfl (by kernel_rfl) (by kernel_rfl) (by kernel_rfl) (fun _ _ _ h => h) (yieldsIf_load_mid (by rfl) 26 (.tmp 19) (by rfl) _ (0 + i * 2) (by rfl) _ _ (fun _ hs => X2.out _ hs) Tryd.underlying26 rfl (sizeCl)) (by assumption) ?_
      try simp only [Act.put, List.setIfInBounds_toArray, List.set_cons_zero, List.set_cons_succ]
      refine wpAnyH_take (i := 4) (oi := ⟨some 21, .load 51 (.tmp 3), _, _, _, none⟩) (v := _) rfl (by kernel_rfl) (by kernel_rfl) (by kernel_rfl) (fun _ _ _ h => h) (yieldsIf_load_mid (by rfl) 51 (.tmp 3) (by rfl) _ (0) (by rfl) _ _ (fun _ hs => X3.out _ hs) Tryd.underlying51 rfl (sizeOk)) (by assumption) ?_
      try simp only [Act.put, List.setIfInBounds_toArray, List.set_cons_zero, List.set_cons_succ]
      refine wpAnyH_ready (rs := [5, 9, 10]) (by kernel_rfl) (by simp) ?_
      refine AllReadyH.cons (o := ⟨some 22, _, _, _, _, none⟩) rfl (fun K hK => ?_) ?_
      · go_simp
        refine (hdn.out _).mono ?_
        rintro e' w7 ⟨rfl, hB7⟩
        refine hK.out _ _ (hHeld.belowR hB7) (fun hHeld => ?_)
        clear hK K
        try simp only [Act.put, List.setIfInBounds_toArray, List.set_cons_zero, List.set_cons_succ]
        refine wpAnyH_take (i := 6) (oi := ⟨some 16, _, _, _, _, none⟩) (v := ?_) rfl (by kernel_rfl) (by kernel_rfl) (by kernel_rfl) (fun _ _ _ h => h) (Or.inl ⟨by rfl, ?_⟩) (by assumption) ?_
        rotate_left
        · intro w hSw; go_simp; try with_reducible rfl
        try simp only [Act.put, List.setIfInBounds_toArray, List.set_cons_zero, List.set_cons_succ]
        refine wpAnyH_take (i := 7) (oi := ⟨some 23, _, _, _, _, none⟩) (v := ?_) rfl (by kernel_rfl) (by kernel_rfl) (by kernel_rfl) (fun _ _ _ h => h) (Or.inl ⟨by rfl, ?_⟩) (by assumption) ?_
        rotate_left
        · intro w hSw; go_simp; try with_reducible rfl
        try simp only [Act.put, List.setIfInBounds_toArray, List.set_cons_zero, List.set_cons_succ]
        refine wpAnyH_take (i := 8) (oi := ⟨some 24, _, _, _, _, none⟩) (v := ?_) rfl (by kernel_rfl) (by kernel_rfl) (by kernel_rfl) (fun _ _ _ h => h) (Or.inl ⟨by rfl, ?_⟩) (by assumption) ?_
        rotate_left
        · intro w hSw; go_simp; try with_reducible rfl
        try simp only [Act.put, List.setIfInBounds_toArray, List.set_cons_zero, List.set_cons_succ]
        refine wpAnyH_ready (rs := [9, 10]) (by kernel_rfl) (by simp) ?_
        refine AllReadyH.cons (o := ⟨some 6, .alloc _, _, _, _, none⟩) rfl (fun K hK => ?_) ?_
        · refine step_new 26 (by rfl) (by rfl) zeroCl ?_
          intro g6 w9 hg6 hgl6 z6 hB9
          have hg6 : w3.heap.size ≤ g6 := Nat.le_trans hHeld.size hg6
          refine hK.out _ _ (hHeld.belowR hB9) (fun hHeld => ?_)
          clear hK K
          try simp only [Act.put, List.setIfInBounds_toArray, List.set_cons_zero, List.set_cons_succ]
          refine wpAnyH_ready (rs := [10]) (by kernel_rfl) (by simp) ?_
          refine AllReadyH.cons (o := ⟨some 7, .alloc _, _, _, _, none⟩) rfl (fun K hK => ?_) AllReadyH.nil
          refine step_new 29 (by rfl) (by rfl) zeroRs ?_
          intro g7 w10 hg7 hgl7 z7 hB10
          have hne : g6 ≠ g7 := fun e => by have := z6.lt; omega
          have z6 := z6.below hB10
          have hg7 : w3.heap.size ≤ g7 := Nat.le_trans hHeld.size hg7
          refine hK.out _ _ (hHeld.belowR hB10) (fun hHeld => ?_)
          clear hK K
          try simp only [Act.put, List.setIfInBounds_toArray, List.set_cons_zero, List.set_cons_succ]
          refine wpAnyH_ready (rs := [11]) (by kernel_rfl) (by simp) ?_
          refine AllReadyH.cons (o := ⟨none, _, _, _, _, none⟩) rfl (fun K hK => ?_) AllReadyH.nil
          refine step_st 26 (.tmp 6) (.tmp 23) (by rfl) (by rfl) (by rfl) (f := 0) (by rfl) (l := x'.l) (by rfl) z6 (by show 0 + 2 ≤ 2; omega) sizeCl (one_cl _) ?_
          intro w11 k6 G6
          have k6 := blk_all k6 (by show 2 ≤ 2; omega)
          have z7 := z7.keep (G6.block _ z7.lt (by intro e; injection e with e; exact hne e.symm))
          refine hK.out _ _ (hHeld.grow G6 (fun k hk => .inr (by injection hk with hk; omega))) (fun hHeld => ?_)
          clear hK K
          try simp only [Act.put, List.setIfInBounds_toArray, List.set_cons_zero, List.set_cons_succ]
          refine wpAnyH_ready (rs := [12]) (by kernel_rfl) (by simp) ?_
          refine AllReadyH.cons (o := ⟨none, _, _, _, _, none⟩) rfl (fun K hK => ?_) AllReadyH.nil
          refine step_st 29 (.tmp 7) (.tmp 24) (by rfl) (by rfl) (by rfl) (f := 0) (by rfl) (l := rvs r) (by rfl) z7 (by show 0 + 2 ≤ 2; omega) sizeRs (one_rvs _) ?_
          intro w12 k7 G7
          have k7 := blk_all k7 (by show 2 ≤ 2; omega)
          have k6 := k6.keep (G7.block _ k6.lt (by intro e; injection e with e; exact hne e))
          refine hK.out _ _ (hHeld.grow G7 (fun k hk => .inr (by injection hk with hk; omega))) (fun hHeld => ?_)
          clear hK K
          try simp only [Act.put, List.setIfInBounds_toArray, List.set_cons_zero, List.set_cons_succ]
          refine wpAnyH_done (by kernel_rfl) ?_ _
          refine NoPanic.normal ?_
          go_wp2
          go_meet
          exact ⟨g6, g7, rfl, rfl, hg6, hg7, k6, k7, hHeld⟩
        refine AllReadyH.cons (o := ⟨some 7, .alloc _, _, _, _, none⟩) rfl (fun K hK => ?_) AllReadyH.nil
        refine step_new 29 (by rfl) (by rfl) zeroRs ?_
        intro g7 w10 hg7 hgl7 z7 hB10
        have hg7 : w3.heap.size ≤ g7 := Nat.le_trans hHeld.size hg7
        refine hK.out _ _ (hHeld.belowR hB10) (fun hHeld => ?_)
        clear hK K
        try simp only [Act.put, List.setIfInBounds_toArray, List.set_cons_zero, List.set_cons_succ]
        refine wpAnyH_ready (rs := [9]) (by kernel_rfl) (by simp) ?_
        refine AllReadyH.cons (o := ⟨some 6, .alloc _, _, _, _, none⟩) rfl (fun K hK => ?_) AllReadyH.nil
        refine step_new 26 (by rfl) (by rfl) zeroCl ?_
        intro g6 w9 hg6 hgl6 z6 hB9
        have hne : g6 ≠ g7 := fun e => by have := z7.lt; omega
        have z7 := z7.below hB9
        have hg6 : w3.heap.size ≤ g6 := Nat.le_trans hHeld.size hg6
        refine hK.out _ _ (hHeld.belowR hB9) (fun hHeld => ?_)
        clear hK K
        try simp only [Act.put, List.setIfInBounds_toArray, List.set_cons_zero, List.set_cons_succ]
        refine wpAnyH_ready (rs := [11]) (by kernel_rfl) (by simp) ?_
        refine AllReadyH.cons (o := ⟨none, _, _, _, _, none⟩) rfl (fun K hK => ?_) AllReadyH.nil
        refine step_st 26 (.tmp 6) (.tmp 23) (by rfl) (by rfl) (by rfl) (f := 0) (by rfl) (l := x'.l) (by rfl) z6 (by show 0 + 2 ≤ 2; omega) sizeCl (one_cl _) ?_
        intro w11 k6 G6
        have k6 := blk_all k6 (by show 2 ≤ 2; omega)
        have z7 := z7.keep (G6.block _ z7.lt (by intro e; injection e with e; exact hne e.symm))
        refine hK.out _ _ (hHeld.grow G6 (fun k hk => .inr (by injection hk with hk; omega))) (fun hHeld => ?_)
        clear hK K
        try simp only [Act.put, List.setIfInBounds_toArray, List.set_cons_zero, List.set_cons_succ]
        refine wpAnyH_ready (rs := [12]) (by kernel_rfl) (by simp) ?_
        refine AllReadyH.cons (o := ⟨none, _, _, _, _, none⟩) rfl (fun K hK => ?_) AllReadyH.nil
        refine step_st 29 (.tmp 7) (.tmp 24) (by rfl) (by rfl) (by rfl) (f := 0) (by rfl) (l := rvs r) (by rfl) z7 (by show 0 + 2 ≤ 2; omega) sizeRs (one_rvs _) ?_
        intro w12 k7 G7
        have k7 := blk_all k7 (by show 2 ≤ 2; omega)
        have k6 := k6.keep (G7.block _ k6.lt (by intro e; injection e with e; exact hne e))
        refine hK.out _ _ (hHeld.grow G7 (fun k hk => .inr (by injection hk with hk; omega))) (fun hHeld => ?_)
        clear hK K
        try simp only [Act.put, List.setIfInBounds_toArray, List.set_cons_zero, List.set_cons_succ]
        refine wpAnyH_done (by kernel_rfl) ?_ _
        refine NoPanic.normal ?_
        go_wp2
        go_meet
        exact ⟨g6, g7, rfl, rfl, hg6, hg7, k6, k7, hHeld⟩
      refine AllReadyH.cons (o := ⟨some 6, .alloc _, _, _, _, none⟩) rfl (fun K hK => ?_) ?_
      · refine step_new 26 (by rfl) (by rfl) zeroCl ?_
        intro g6 w9 hg6 hgl6 z6 hB9
        have hg6 : w3.heap.size ≤ g6 := Nat.le_trans hHeld.size hg6
        refine hK.out _ _ (hHeld.belowR hB9) (fun hHeld => ?_)
        clear hK K
        try simp only [Act.put, List.setIfInBounds_toArray, List.set_cons_zero, List.set_cons_succ]
        refine wpAnyH_ready (rs := [5, 10]) (by kernel_rfl) (by simp) ?_
        refine AllReadyH.cons (o := ⟨some 22, _, _, _, _, none⟩) rfl (fun K hK => ?_) ?_
        · go_simp
          refine (hdn.out _).mono ?_
          rintro e' w7 ⟨rfl, hB7⟩
          have z6 := z6.below hB7
          refine hK.out _ _ (hHeld.belowR hB7) (fun hHeld => ?_)
          clear hK K
          try simp only [Act.put, List.setIfInBounds_toArray, List.set_cons_zero, List.set_cons_succ]
          refine wpAnyH_take (i := 6) (oi := ⟨some 16, _, _, _, _, none⟩) (v := ?_) rfl (by kernel_rfl) (by kernel_rfl) (by kernel_rfl) (fun _ _ _ h => h) (Or.inl ⟨by rfl, ?_⟩) (by assumption) ?_
          rotate_left
          · intro w hSw; go_simp; try with_reducible rfl
          try simp only [Act.put, List.setIfInBounds_toArray, List.set_cons_zero, List.set_cons_succ]
          refine wpAnyH_take (i := 7) (oi := ⟨some 23, _, _, _, _, none⟩) (v := ?_) rfl (by kernel_rfl) (by kernel_rfl) (by kernel_rfl) (fun _ _ _ h => h) (Or.inl ⟨by rfl, ?_⟩) (by assumption) ?_
          rotate_left
          · intro w hSw; go_simp; try with_reducible rfl
          try simp only [Act.put, List.setIfInBounds_toArray, List.set_cons_zero, List.set_cons_succ]
          refine wpAnyH_take (i := 8) (oi := ⟨some 24, _, _, _, _, none⟩) (v := ?_) rfl (by kernel_rfl) (by kernel_rfl) (by kernel_rfl) (fun _ _ _ h => h) (Or.inl ⟨by rfl, ?_⟩) (by assumption) ?_
          rotate_left
          · intro w hSw; go_simp; try with_reducible rfl
          try simp only [Act.put, List.setIfInBounds_toArray, List.set_cons_zero, List.set_cons_succ]
          refine wpAnyH_ready (rs := [10]) (by kernel_rfl) (by simp) ?_
          refine AllReadyH.cons (o := ⟨some 7, .alloc _, _, _, _, none⟩) rfl (fun K hK => ?_) AllReadyH.nil
          refine step_new 29 (by rfl) (by rfl) zeroRs ?_
          intro g7 w10 hg7 hgl7 z7 hB10
          have hne : g6 ≠ g7 := fun e => by have := z6.lt; omega
          have z6 := z6.below hB10
          have hg7 : w3.heap.size ≤ g7 := Nat.le_trans hHeld.size hg7
          refine hK.out _ _ (hHeld.belowR hB10) (fun hHeld => ?_)
          clear hK K
          try simp only [Act.put, List.setIfInBounds_toArray, List.set_cons_zero, List.set_cons_succ]
          refine wpAnyH_ready (rs := [11]) (by kernel_rfl) (by simp) ?_
          refine AllReadyH.cons (o := ⟨none, _, _, _, _, none⟩) rfl (fun K hK => ?_) AllReadyH.nil
          refine step_st 26 (.tmp 6) (.tmp 23) (by rfl) (by rfl) (by rfl) (f := 0) (by rfl) (l := x'.l) (by rfl) z6 (by show 0 + 2 ≤ 2; omega) sizeCl (one_cl _) ?_
          intro w11 k6 G6
          have k6 := blk_all k6 (by show 2 ≤ 2; omega)
          have z7 := z7.keep (G6.block _ z7.lt (by intro e; injection e with e; exact hne e.symm))
          refine hK.out _ _ (hHeld.grow G6 (fun k hk => .inr (by injection hk with hk; omega))) (fun hHeld => ?_)
          clear hK K
          try simp only [Act.put, List.setIfInBounds_toArray, List.set_cons_zero, List.set_cons_succ]
          refine wpAnyH_ready (rs := [12]) (by kernel_rfl) (by simp) ?_
          refine AllReadyH.cons (o := ⟨none, _, _, _, _, none⟩) rfl (fun K hK => ?_) AllReadyH.nil
          refine step_st 29 (.tmp 7) (.tmp 24) (by rfl) (by rfl) (by rfl) (f := 0) (by rfl) (l := rvs r) (by rfl) z7 (by show 0 + 2 ≤ 2; omega) sizeRs (one_rvs _) ?_
          intro w12 k7 G7
          have k7 := blk_all k7 (by show 2 ≤ 2; omega)
          have k6 := k6.keep (G7.block _ k6.lt (by intro e; injection e with e; exact hne e))
          refine hK.out _ _ (hHeld.grow G7 (fun k hk => .inr (by injection hk with hk; omega))) (fun hHeld => ?_)
          clear hK K
          try simp only [Act.put, List.setIfInBounds_toArray, List.set_cons_zero, List.set_cons_succ]
          refine wpAnyH_done (by kernel_rfl) ?_ _
          refine NoPanic.normal ?_
          go_wp2
          go_meet
          exact ⟨g6, g7, rfl, rfl, hg6, hg7, k6, k7, hHeld⟩
        refine AllReadyH.cons (o := ⟨some 7, .alloc _, _, _, _, none⟩) rfl (fun K hK => ?_) AllReadyH.nil
        refine step_new 29 (by rfl) (by rfl) zeroRs ?_
        intro g7 w10 hg7 hgl7 z7 hB10
        have hne : g6 ≠ g7 := fun e => by have := z6.lt; omega
        have z6 := z6.below hB10
        have hg7 : w3.heap.size ≤ g7 := Nat.le_trans hHeld.size hg7
        refine hK.out _ _ (hHeld.belowR hB10) (fun hHeld => ?_)
        clear hK K
        try simp only [Act.put, List.setIfInBounds_toArray, List.set_cons_zero, List.set_cons_succ]
        refine wpAnyH_ready (rs := [5]) (by kernel_rfl) (by simp) ?_
        refine AllReadyH.cons (o := ⟨some 22, _, _, _, _, none⟩) rfl (fun K hK => ?_) AllReadyH.nil
        go_simp
        refine (hdn.out _).mono ?_
        rintro e' w7 ⟨rfl, hB7⟩
        have z6 := z6.below hB7
        have z7 := z7.below hB7
        refine hK.out _ _ (hHeld.belowR hB7) (fun hHeld => ?_)
        clear hK K
        try simp only [Act.put, List.setIfInBounds_toArray, List.set_cons_zero, List.set_cons_succ]
        refine wpAnyH_take (i := 6) (oi := ⟨some 16, _, _, _, _, none⟩) (v := ?_) rfl (by kernel_rfl) (by kernel_rfl) (by kernel_rfl) (fun _ _ _ h => h) (Or.inl ⟨by rfl, ?_⟩) (by assumption) ?_
        rotate_left
        · intro w hSw; go_simp; try with_reducible rfl
        try simp only [Act.put, List.setIfInBounds_toArray, List.set_cons_zero, List.set_cons_succ]
        refine wpAnyH_take (i := 7) (oi := ⟨some 23, _, _, _, _, none⟩) (v := ?_) rfl (by kernel_rfl) (by kernel_rfl) (by kernel_rfl) (fun _ _ _ h => h) (Or.inl ⟨by rfl, ?_⟩) (by assumption) ?_
        rotate_left
        · intro w hSw; go_simp; try with_reducible rfl
        try simp only [Act.put, List.setIfInBounds_toArray, List.set_cons_zero, List.set_cons_succ]
        refine wpAnyH_take (i := 8) (oi := ⟨some 24, _, _, _, _, none⟩) (v := ?_) rfl (by kernel_rfl) (by kernel_rfl) (by kernel_rfl) (fun _ _ _ h => h) (Or.inl ⟨by rfl, ?_⟩) (by assumption) ?_
        rotate_left
        · intro w hSw; go_simp; try with_reducible rfl
        try simp only [Act.put, List.setIfInBounds_toArray, List.set_cons_zero, List.set_cons_succ]
        refine wpAnyH_ready (rs := [11]) (by kernel_rfl) (by simp) ?_
        refine AllReadyH.cons (o := ⟨none, _, _, _, _, none⟩) rfl (fun K hK => ?_) AllReadyH.nil
        refine step_st 26 (.tmp 6) (.tmp 23) (by rfl) (by rfl) (by rfl) (f := 0) (by rfl) (l := x'.l) (by rfl) z6 (by show 0 + 2 ≤ 2; omega) sizeCl (one_cl _) ?_
        intro w11 k6 G6
        have k6 := blk_all k6 (by show 2 ≤ 2; omega)
        have z7 := z7.keep (G6.block _ z7.lt (by intro e; injection e with e; exact hne e.symm))
        refine hK.out _ _ (hHeld.grow G6 (fun k hk => .inr (by injection hk with hk; omega))) (fun hHeld => ?_)
        clear hK K
        try simp only [Act.put, List.setIfInBounds_toArray, List.set_cons_zero, List.set_cons_succ]
        refine wpAnyH_ready (rs := [12]) (by kernel_rfl) (by simp) ?_
        refine AllReadyH.cons (o := ⟨none, _, _, _, _, none⟩) rfl (fun K hK => ?_) AllReadyH.nil
        refine step_st 29 (.tmp 7) (.tmp 24) (by rfl) (by rfl) (by rfl) (f := 0) (by rfl) (l := rvs r) (by rfl) z7 (by show 0 + 2 ≤ 2; omega) sizeRs (one_rvs _) ?_
        intro w12 k7 G7
        have k7 := blk_all k7 (by show 2 ≤ 2; omega)
        have k6 := k6.keep (G7.block _ k6.lt (by intro e; injection e with e; exact hne e))
        refine hK.out _ _ (hHeld.grow G7 (fun k hk => .inr (by injection hk with hk; omega))) (fun hHeld => ?_)
        clear hK K
        try simp only [Act.put, List.setIfInBounds_toArray, List.set_cons_zero, List.set_cons_succ]
        refine wpAnyH_done (by kernel_rfl) ?_ _
        refine NoPanic.normal ?_
        go_wp2
        go_meet
        exact ⟨g6, g7, rfl, rfl, hg6, hg7, k6, k7, hHeld⟩
      refine AllReadyH.cons (o := ⟨some 7, .alloc _, _, _, _, none⟩) rfl (fun K hK => ?_) AllReadyH.nil
      refine step_new 29 (by rfl) (by rfl) zeroRs ?_
      intro g7 w10 hg7 hgl7 z7 hB10
      have hg7 : w3.heap.size ≤ g7 := Nat.le_trans hHeld.size hg7
      refine hK.out _ _ (hHeld.belowR hB10) (fun hHeld => ?_)
      clear hK K
      try simp only [Act.put, List.setIfInBounds_toArray, List.set_cons_zero, List.set_cons_succ]
      refine wpAnyH_ready (rs := [5, 9]) (by kernel_rfl) (by simp) ?_
      refine AllReadyH.cons (o := ⟨some 22, _, _, _, _, none⟩) rfl (fun K hK => ?_) ?_
      · go_simp
        refine (hdn.out _).mono ?_
        rintro e' w7 ⟨rfl, hB7⟩
        have z7 := z7.below hB7
        refine hK.out _ _ (hHeld.belowR hB7) (fun hHeld => ?_)
        clear hK K
        try simp only [Act.put, List.setIfInBounds_toArray, List.set_cons_zero, List.set_cons_succ]
        refine wpAnyH_take (i := 6) (oi := ⟨some 16, _, _, _, _, none⟩) (v := ?_) rfl (by kernel_rfl) (by kernel_rfl) (by kernel_rfl) (fun _ _ _ h => h) (Or.inl ⟨by rfl, ?_⟩) (by assumption) ?_
        rotate_left
        · intro w hSw; go_simp; try with_reducible rfl
        try simp only [Act.put, List.setIfInBounds_toArray, List.set_cons_zero, List.set_cons_succ]
        refine wpAnyH_take (i := 7) (oi := ⟨some 23, _, _, _, _, none⟩) (v := ?_) rfl (by kernel_rfl) (by kernel_rfl) (by kernel_rfl) (fun _ _ _ h => h) (Or.inl ⟨by rfl, ?_⟩) (by assumption) ?_
        rotate_left
        · intro w hSw; go_simp; try with_reducible rfl
        try simp only [Act.put, List.setIfInBounds_toArray, List.set_cons_zero, List.set_cons_succ]
        refine wpAnyH_take (i := 8) (oi := ⟨some 24, _, _, _, _, none⟩) (v := ?_) rfl (by kernel_rfl) (by kernel_rfl) (by kernel_rfl) (fun _ _ _ h => h) (Or.inl ⟨by rfl, ?_⟩) (by assumption) ?_
        rotate_left
        · intro w hSw; go_simp; try with_reducible rfl
        try simp only [Act.put, List.setIfInBounds_toArray, List.set_cons_zero, List.set_cons_succ]
        refine wpAnyH_ready (rs := [9]) (by kernel_rfl) (by simp) ?_
        refine AllReadyH.cons (o := ⟨some 6, .alloc _, _, _, _, none⟩) rfl (fun K hK => ?_) AllReadyH.nil
        refine step_new 26 (by rfl) (by rfl) zeroCl ?_
        intro g6 w9 hg6 hgl6 z6 hB9
        have hne : g6 ≠ g7 := fun e => by have := z7.lt; omega
        have z7 := z7.below hB9
        have hg6 : w3.heap.size ≤ g6 := Nat.le_trans hHeld.size hg6
        refine hK.out _ _ (hHeld.belowR hB9) (fun hHeld => ?_)
        clear hK K
        try simp only [Act.put, List.setIfInBounds_toArray, List.set_cons_zero, List.set_cons_succ]
        refine wpAnyH_ready (rs := [11]) (by kernel_rfl) (by simp) ?_
        refine AllReadyH.cons (o := ⟨none, _, _, _, _, none⟩) rfl (fun K hK => ?_) AllReadyH.nil
        refine step_st 26 (.tmp 6) (.tmp 23) (by rfl) (by rfl) (by rfl) (f := 0) (by rfl) (l := x'.l) (by rfl) z6 (by show 0 + 2 ≤ 2; omega) sizeCl (one_cl _) ?_
        intro w11 k6 G6
        have k6 := blk_all k6 (by show 2 ≤ 2; omega)
        have z7 := z7.keep (G6.block _ z7.lt (by intro e; injection e with e; exact hne e.symm))
        refine hK.out _ _ (hHeld.grow G6 (fun k hk => .inr (by injection hk with hk; omega))) (fun hHeld => ?_)
        clear hK K
        try simp only [Act.put, List.setIfInBounds_toArray, List.set_cons_zero, List.set_cons_succ]
        refine wpAnyH_ready (rs := [12]) (by kernel_rfl) (by simp) ?_
        refine AllReadyH.cons (o := ⟨none, _, _, _, _, none⟩) rfl (fun K hK => ?_) AllReadyH.nil
        refine step_st 29 (.tmp 7) (.tmp 24) (by rfl) (by rfl) (by rfl) (f := 0) (by rfl) (l := rvs r) (by rfl) z7 (by show 0 + 2 ≤ 2; omega) sizeRs (one_rvs _) ?_
        intro w12 k7 G7
        have k7 := blk_all k7 (by show 2 ≤ 2; omega)
        have k6 := k6.keep (G7.block _ k6.lt (by intro e; injection e with e; exact hne e))
        refine hK.out _ _ (hHeld.grow G7 (fun k hk => .inr (by injection hk with hk; omega))) (fun hHeld => ?_)
        clear hK K
        try simp only [Act.put, List.setIfInBounds_toArray, List.set_cons_zero, List.set_cons_succ]
        refine wpAnyH_done (by kernel_rfl) ?_ _
        refine NoPanic.normal ?_
        go_wp2
        go_meet
        exact ⟨g6, g7, rfl, rfl, hg6, hg7, k6, k7, hHeld⟩
      refine AllReadyH.cons (o := ⟨some 6, .alloc _, _, _, _, none⟩) rfl (fun K hK => ?_) AllReadyH.nil
      refine step_new 26 (by rfl) (by rfl) zeroCl ?_
      intro g6 w9 hg6 hgl6 z6 hB9
      have hne : g6 ≠ g7 := fun e => by have := z7.lt; omega
      have z7 := z7.below hB9
      have hg6 : w3.heap.size ≤ g6 := Nat.le_trans hHeld.size hg6
      refine hK.out _ _ (hHeld.belowR hB9) (fun hHeld => ?_)
      clear hK K
      try simp only [Act.put, List.setIfInBounds_toArray, List.set_cons_zero, List.set_cons_succ]
      refine wpAnyH_ready (rs := [5]) (by kernel_rfl) (by simp) ?_
      refine AllReadyH.cons (o := ⟨some 22, _, _, _, _, none⟩) rfl (fun K hK => ?_) AllReadyH.nil
      go_simp
      refine (hdn.out _).mono ?_
      rintro e' w7 ⟨rfl, hB7⟩
      have z6 := z6.below hB7
      have z7 := z7.below hB7
      refine hK.out _ _ (hHeld.belowR hB7) (fun hHeld => ?_)
      clear hK K
      try simp only [Act.put, List.setIfInBounds_toArray, List.set_cons_zero, List.set_cons_succ]
      refine wpAnyH_take (i := 6) (oi := ⟨some 16, _, _, _, _, none⟩) (v := ?_) rfl (by kernel_rfl) (by kernel_rfl) (by kernel_rfl) (fun _ _ _ h => h) (Or.inl ⟨by rfl, ?_⟩) (by assumption) ?_
      rotate_left
      · intro w hSw; go_simp; try with_reducible rfl
      try simp only [Act.put, List.setIfInBounds_toArray, List.set_cons_zero, List.set_cons_succ]
      refine wpAnyH_take (i := 7) (oi := ⟨some 23, _, _, _, _, none⟩) (v := ?_) rfl (by kernel_rfl) (by kernel_rfl) (by kernel_rfl) (fun _ _ _ h => h) (Or.inl ⟨by rfl, ?_⟩) (by assumption) ?_
      rotate_left
      · intro w hSw; go_simp; try with_reducible rfl
      try simp only [Act.put, List.setIfInBounds_toArray, List.set_cons_zero, List.set_cons_succ]
      refine wpAnyH_take (i := 8) (oi := ⟨some 24, _, _, _, _, none⟩) (v := ?_) rfl (by kernel_rfl) (by kernel_rfl) (by kernel_rfl) (fun _ _ _ h => h) (Or.inl ⟨by rfl, ?_⟩) (by assumption) ?_
      rotate_left
      · intro w hSw; go_simp; try with_reducible rfl
      try simp only [Act.put, List.setIfInBounds_toArray, List.set_cons_zero, List.set_cons_succ]
      refine wpAnyH_ready (rs := [11]) (by kernel_rfl) (by simp) ?_
      refine AllReadyH.cons (o := ⟨none, _, _, _, _, none⟩) rfl (fun K hK => ?_) AllReadyH.nil
      refine step_st 26 (.tmp 6) (.tmp 23) (by rfl) (by rfl) (by rfl) (f := 0) (by rfl) (l := x'.l) (by rfl) z6 (by show 0 + 2 ≤ 2; omega) sizeCl (one_cl _) ?_
      intro w11 k6 G6
      have k6 := blk_all k6 (by show 2 ≤ 2; omega)
      have z7 := z7.keep (G6.block _ z7.lt (by intro e; injection e with e; exact hne e.symm))
      refine hK.out _ _ (hHeld.grow G6 (fun k hk => .inr (by injection hk with hk; omega))) (fun hHeld => ?_)
      clear hK K
      try simp only [Act.put, List.setIfInBounds_toArray, List.set_cons_zero, List.set_cons_succ]
      refine wpAnyH_ready (rs := [12]) (by kernel_rfl) (by simp) ?_
      refine AllReadyH.cons (o := ⟨none, _, _, _, _, none⟩) rfl (fun K hK => ?_) AllReadyH.nil
      refine step_st 29 (.tmp 7) (.tmp 24) (by rfl) (by rfl) (by rfl) (f := 0) (by rfl) (l := rvs r) (by rfl) z7 (by show 0 + 2 ≤ 2; omega) sizeRs (one_rvs _) ?_
      intro w12 k7 G7
      have k7 := blk_all k7 (by show 2 ≤ 2; omega)
      have k6 := k6.keep (G7.block _ k6.lt (by intro e; injection e with e; exact hne e))
      refine hK.out _ _ (hHeld.grow G7 (fun k hk => .inr (by injection hk with hk; omega))) (fun hHeld => ?_)
      clear hK K
      try simp only [Act.put, List.setIfInBounds_toArray, List.set_cons_zero, List.set_cons_succ]
      refine wpAnyH_done (by kernel_rfl) ?_ _
      refine NoPanic.normal ?_
      go_wp2
      go_meet
      exact ⟨g6, g7, rfl, rfl, hg6, hg7, k6, k7, hHeld⟩
    case rest =>
    obtain ⟨g6, g7, rfl, rfl, hg6, hg7, b6, b7, hch⟩ := hcut
    have h5w := b5.lt
    have b2 := b2.ch hch (fun e => e)
    have b3 := b3.ch hch (fun e => e)
    have b4 := b4.ch hch (fun e => e)
    have b5 := b5.ch hch (fun e => e)
    have hB := Ch.below_of hB hch (fun k hk => hk.elim) hB.size
    have d1 := b3.cellAt 1 _ rfl
    have h67 : g5 < g6 ∧ g5 < g7 := ⟨by omega, by omega⟩
    clear hch hg6 hg7 h5w X2 X3 X31 hdn
    have z2 : (0 + i * 2) = i * 2 := Nat.zero_add _
    go_wp2_with (first | refine wp_ld 26 (.tmp 6) rfl rfl rfl b6.whole Tryd.underlying26 rfl sizeCl ?_ | refine wp_ixp 27 (.tmp 2) (.tmp 26) rfl rfl rfl rfl Tryd.underlying27 hi sizeCl ?_ | (refine wp_st 26 (.tmp 28) (.tmp 27) rfl rfl rfl (f := 0 + i * 2) rfl (l := x'.l) rfl b2 (by rw [Ls.out]; show 0 + i * 2 + 2 ≤ 32; omega) sizeCl (one_cl _) ?_; intro w6 k6 G6; refine wp_stop ?_))
    have b7 := b7.keep (G6.block _ b7.lt (by intro e; injection e with e; omega))
    have b4 := b4.keep (G6.block _ b4.lt (by intro e; injection e with e; omega))
    have b5 := b5.keep (G6.block _ b5.lt (by intro e; injection e with e; omega))
    have hB := hB.grown G6 hB.size (by intro k hk; injection hk with hk; omega)
    have b2 : Blk w6 g2 27 (cvs (sc.set i x')) := by
      rw [hss.out i x' (by omega), Nat.mul_comm 2 i]
      rw [Nat.zero_add] at k6
      exact k6
    have Lx := hid (show (cvs (sc.set i x')).length = 32 by rw [len_cvs, List.length_set, hsl])
    obtain ⟨cn, hcn⟩ : ∃ q, q = cvs (sc.set i x') := ⟨_, rfl⟩
    have Hcn : Hid (∀ v ∈ cn, v.oneCell' = true) := by rw [hcn]; exact hid (one_cvs _)
    rw [← hcn] at b2 Lx
    have Hce := hid hcn
    clear hcn k6 G6 b6 b3 d1
    refine wp_go ?_
    go_upto_region 6 with (fail)
    have Y2 := hid (fun Z (h : Ch (fun y => y = g4 ∨ y = g5) w6 Z) => (b2.ch h (by rintro (h | h) <;> omega)).whole)
    have Y7 := hid (fun Z (h : Ch (fun y => y = g4 ∨ y = g5) w6 Z) => (b7.ch h (by rintro (h | h) <;> omega)).whole)
    have h4 := b4.drew
    have h5 := b5.drew
    refine wp_region_noPanic ?_
    refine wp_region_held_drew (S := Ch (fun y => y = g4 ∨ y = g5) w6) (by kernel_rfl) ((Ch.refl _ _).drew) (fun hHeld => ?_)
    refine wpAnyH_take (i := 0) (oi := ⟨some 29, .load 27 (.tmp 2), _, _, _, none⟩) (v := _) rfl (by kernel_rfl) (by kernel_rfl) (by kernel_rfl) (fun _ _ _ h => h) (yieldsIf_load_mid (by rfl) 27 (.tmp 2) (by rfl) _ (0) (by rfl) _ _ (fun _ hs => Y2.out _ hs) Tryd.underlying27 rfl (by rw [Lx.out]; exact sizeCs)) (by assumption) ?_
    try simp only [Act.put, List.setIfInBounds_toArray, List.set_cons_zero, List.set_cons_succ]
    refine wpAnyH_take (i := 1) (oi := ⟨some 30, .load 29 (.tmp 7), _, _, _, none⟩) (v := _) rfl (by kernel_rfl) (by kernel_rfl) (by kernel_rfl) (fun _ _ _ h => h) (yieldsIf_load_mid (by rfl) 29 (.tmp 7) (by rfl) _ (0) (by rfl) _ _ (fun _ hs => Y7.out _ hs) Tryd.underlying29 rfl (sizeRs)) (by assumption) ?_
    try simp only [Act.put, List.setIfInBounds_toArray, List.set_cons_zero, List.set_cons_succ]
    refine wpAnyH_ready (rs := [2]) (by kernel_rfl) (by simp) ?_
    refine AllReadyH.cons (o := ⟨none, _, _, _, _, none⟩) rfl (fun K hK => ?_) AllReadyH.nil
    refine step_st 27 (.tmp 4) (.tmp 29) (by rfl) (by rfl) (by rfl) (f := 0) (by rfl) (l := cn) (by rfl) h4 (by rw [Lx.out, len_zCs]; omega) (by rw [Lx.out]; exact sizeCs) Hcn.out ?_
    intro x1 k4 G4
    have h4 := blk_all k4 (by rw [Lx.out, len_zCs]; omega)
    have h5 := h5.keep (G4.block _ h5.lt (by intro e; injection e with e; omega))
    refine hK.out _ _ (hHeld.grow G4 (fun k hk => .inl (.inl (by injection hk with hk; exact hk.symm)))) (fun hHeld => ?_)
    clear hK K
    try simp only [Act.put, List.setIfInBounds_toArray, List.set_cons_zero, List.set_cons_succ]
    refine wpAnyH_ready (rs := [3]) (by kernel_rfl) (by simp) ?_
    refine AllReadyH.cons (o := ⟨none, _, _, _, _, none⟩) rfl (fun K hK => ?_) AllReadyH.nil
    refine step_st 29 (.tmp 5) (.tmp 30) (by rfl) (by rfl) (by rfl) (f := 0) (by rfl) (l := rvs r) (by rfl) h5 (by show 0 + 2 ≤ 2; omega) sizeRs (one_rvs _) ?_
    intro x2 k5 G5
    have h5 := blk_all k5 (by show 2 ≤ 2; omega)
    have h4 := h4.keep (G5.block _ h4.lt (by intro e; injection e with e; omega))
    refine hK.out _ _ (hHeld.grow G5 (fun k hk => .inl (.inr (by injection hk with hk; exact hk.symm)))) (fun hHeld => ?_)
    clear hK K
    try simp only [Act.put, List.setIfInBounds_toArray, List.set_cons_zero, List.set_cons_succ]
    refine wpAnyH_done (by kernel_rfl) ?_ _
    refine NoPanic.normal ?_
    have hB := Ch.below_of hB hHeld (fun k hk => by rcases hk with rfl | rfl <;> omega) hB.size
    go_wp2
    refine ret_cell2 rfl rfl rfl h4.whole h5.whole Tryd.underlying27 rfl (by rw [Lx.out]; exact sizeCs) Tryd.underlying29 rfl sizeRs rfl ?_
    exact ⟨sc.set i x', by rw [← Hp2.out, Hce.out], in_set Hin.out i Hdi.out, Hp1.out, set_zero Hz.out i Hdz.out, hB⟩
  · have hdt : decide (0 ≤ y ∧ y ≤ 15) = false := decide_eq_false hy
    rw [hdt]
    have Hd := hid (hbad.out hy)
    clear hdt hbad hy
    go_wp2_with (first | refine wp_ld 27 (.tmp 2) rfl rfl rfl b2.whole Tryd.underlying27 rfl (by rw [Ls.out]; exact sizeCs) ?_ | refine wp_bld 29 [] rfl rfl [] rfl bldRs ?_ | (refine wp_st 27 (.tmp 4) (.tmp 14) rfl rfl rfl (f := 0) rfl (l := cs) rfl b4 (by rw [Ls.out, len_zCs]; omega) (by rw [Ls.out]; exact sizeCs) Hco.out ?_; intro x1 k4 G4; refine wp_st 29 (.tmp 5) (.tmp 15) rfl rfl rfl (f := 0) rfl (l := rvs (false, 0)) rfl (b5.keep (G4.block _ b5.lt (by intro e; injection e with e; omega))) (by show 0 + 2 ≤ 2; omega) sizeRs (one_rvs _) ?_; intro x2 k5 G5))
    have h4 := (blk_all k4 (by rw [Ls.out, len_zCs]; omega)).keep (G5.block _ k4.lt (by intro e; injection e with e; omega))
    have h5 := blk_all k5 (by show 2 ≤ 2; omega)
    have hB := (hB.grown G4 hB.size (by intro k hk; injection hk with hk; omega)).grown G5 (Nat.le_trans hB.size G4.size) (by intro k hk; injection hk with hk; omega)
    refine ret_cell2 rfl rfl rfl h4.whole h5.whole Tryd.underlying27 rfl (by rw [Ls.out]; exact sizeCs) Tryd.underlying29 rfl sizeRs rfl ?_
    exact ⟨sc, by rw [Hd.out, Hcs.out], Hin.out, by rw [Hd.out]; exact Hnm.out, Hz.out, hB⟩
theorem fix1 (i : Nat) (h : i < 256) : fixR 1 i = [UInt8.ofNat i] := by
  unfold fixR
  have h1 : okN 1 := Or.inl rfl
  rw [if_pos h1]
  show [UInt8.ofNat (i / 256 ^ 0 % 256)] = _
  rw [Nat.pow_zero, Nat.div_one, Nat.mod_eq_of_lt h]
theorem kvdo14_any (c : List Cl) (o : Ok) (w : World) (hc : ClIn c) (ho : OkIn o) :
    Calls Tryd.prog 55 #[.agg (cvs c).toArray, .agg o.l.toArray] w fun e w' => ∃ c', e = .returned (.tuple #[.agg (cvs c').toArray, .agg (rvs (doK (nmF c) o).2).toArray]) ∧ ClIn c' ∧ nmF c' = (doK (nmF c) o).1 ∧ Below w.heap.size w w' := by
  refine (kvdo15_any c o w hc ho).mono ?_
  rintro e w' ⟨c', h1, h2, h3, _, h5⟩
  exact ⟨c', h1, h2, h3, h5⟩
set_option maxRecDepth 100000 in
set_option maxHeartbeats 4000000 in
theorem kvput14_any (c : List Cl) (w : World) (hc : ClIn c) :
    Calls Tryd.prog 16 #[.agg (cvs c).toArray] w fun e w' => ∃ v', e = .returned v' ∧ NewB w w' v' (putK (nmF c)) := by
  have hcl := hc.len
  have Hin := hid hc.n
  have Lc := hid (show (cvs c).length = 32 by rw [len_cvs, hcl])
  have hcut := hid (cvs_cut c)
  have b1 := Blk.new' w 27 (cvs c)
  have hB : Below w.heap.size w (w.alloc (.cells (cvs c).toArray 27)) := (Below.refl _ _).alloc (Nat.le_refl _) _
  obtain ⟨cc, hca⟩ : ∃ q, q = cvs c := ⟨_, rfl⟩
  rw [← hca] at b1 hB hcut Lc ⊢
  clear hca
  obtain ⟨N, hN⟩ : ∃ N, N = nmF c := ⟨_, rfl⟩
  have hNl : N.length = 16 := by rw [hN, nm_len, hcl]
  have hNt : ∀ (i : Nat) (x : Cl), c[i]? = some x → N.take (i + 1) = N.take i ++ [nmC x] := by rw [hN]; exact nm_take c
  rw [← hN]
  clear hN
  have HNt := hid hNt
  clear hNt hc
  go_enter Tryd.func16, Tryd.ntmps16
  go_wp2_with (refine wp_ld 27 (.tmp 1) rfl rfl rfl b1.whole Tryd.underlying27 rfl (by rw [Lc.out]; exact sizeCs) ?_)
  obtain ⟨w0, hw0⟩ : ∃ x, x = w.alloc (.cells cc.toArray 27) := ⟨_, rfl⟩
  rw [← hw0] at b1 hB ⊢
  clear hw0 b1
  have hsz0 : w.heap.size ≤ w0.heap.size := hB.size
  have hnil := Rd.nil w0 (fun _ => True)
  go_loopw [3, 4, 8] (fun bv nv iv wr => ∃ i : Nat, i ≤ 16 ∧ iv = .int .i64 i ∧ nv = .int .i64 (cntK (N.take i) : Nat) ∧ Rd wr (fun _ => True) bv (bys (txtK 0 (N.take i))) ∧ Below w0.heap.size w0 wr) (fun _ _ i _ => 16 - (intOf i).toNat)
  case atStart => exact ⟨0, Nat.zero_le _, rfl, rfl, hnil, Below.refl _ _⟩
  case round =>
    clear hnil
    obtain ⟨i, hi, rfl, rfl, ho, hBr⟩ := hrel
    have hns := cntK_le (N.take i)
    have hT := len_txtK (N.take i) 0
    rw [List.length_take] at hns hT
    by_cases hlt : i < 16
    · have hI : (i : Int) < 16 := by omega
      obtain ⟨x, hx⟩ : ∃ x, c[i]? = some x := ⟨_, List.getElem?_eq_getElem (by omega)⟩
      have hk := hid (hcut.out i x hx)
      have hsn := HNt.out i x hx
      have hxn := Hin.out x (List.mem_of_getElem? hx)
      obtain ⟨xt, xn⟩ := x
      have hTl : (N.take i).length = i := by rw [List.length_take, hNl]; omega
      have hst := txtK_snoc (N.take i) 0 (nmC ⟨xt, xn⟩)
      have hct := cntK_snoc (N.take i) (nmC ⟨xt, xn⟩)
      rw [← hsn, hTl, Nat.zero_add] at hst
      rw [← hsn] at hct
      obtain ⟨T, hTT⟩ : ∃ T, T = txtK 0 (N.take i) := ⟨_, rfl⟩
      obtain ⟨C, hCC⟩ : ∃ C, C = cntK (N.take i) := ⟨_, rfl⟩
      rw [← hTT] at ho hst hT
      rw [← hCC] at hct hns ⊢
      clear hTT hCC hsn hTl hx
      have b4 := Blk.new' wr 26 zC.l
      have hBa : Below wr.heap.size wr (wr.alloc (.cells zC.l.toArray 26)) := (Below.refl _ _).alloc (Nat.le_refl _) _
      have ho2 := ho.below hBa
      have hBw := hBr.trans (hBa.mono hBr.size)
      obtain ⟨w4, hw4⟩ : ∃ x, x = wr.alloc (.cells zC.l.toArray 26) := ⟨_, rfl⟩
      rw [← hw4] at b4 ho2 hBw hBa
      go_wp2_with (first | refine wp_idxW 27 (.tmp 7) (.tmp 8) rfl rfl (l := cc) rfl rfl Tryd.underlying27 hlt aggCl sizeCl ?_; rw [hk.out] | (refine wp_new 26 rfl rfl zeroCl ?_; refine wp_stop ?_))
      rw [← hw4]
      clear hw4
      obtain ⟨g4, hg4⟩ : ∃ g, g = wr.heap.size := ⟨_, rfl⟩
      rw [← hg4] at b4 ⊢
      have hgw : w0.heap.size ≤ g4 := by rw [hg4]; exact hBr.size
      refine wp_go ?_
      go_wp2_with (first | (refine wp_st 26 (.tmp 6) (.tmp 11) rfl rfl rfl (f := 0) rfl (l := Cl.l ⟨xt, xn⟩) rfl b4 (by show 0 + 2 ≤ 2; omega) sizeCl (one_cl _) ?_; intro w5 k5 G5; refine wp_stop ?_))
      have k5 := blk_all k5 (by show 2 ≤ 2; omega)
      have hB5 := hBw.grown G5 hBw.size (by intro k hk; injection hk with hk; omega)
      have hBn : Below wr.heap.size wr w5 := hBa.grown G5 hBa.size (by intro k hk; injection hk with hk; omega)
      have ho := ho.below hBn
      clear hBn G5 ho2 hBa hBw b4 hg4
      have d0 := k5.cellAt 0 _ rfl
      refine wp_go ?_
      cases xt with
      | false =>
        have Hst := hid (show txtK 0 (N.take (i + 1)) = T by rw [hst]; exact List.append_nil _)
        have Hct := hid (show cntK (N.take (i + 1)) = C by rw [hct]; rfl)
        clear hst hct
        go_wp2
        go_roundw
        case rel => exact ⟨i + 1, by omega, by go_num, by rw [Hct.out], by rw [Hst.out]; exact ho, hB5⟩
        case measure => simp [intOf]; omega
      | true =>
        have Hst := hid (show txtK 0 (N.take (i + 1)) = (T ++ [UInt8.ofNat i]) ++ packed (foldN xn) by rw [hst]; show T ++ ((UInt8.ofNat i :: packed (foldN xn)) ++ []) = _; simp)
        have Hct := hid (show cntK (N.take (i + 1)) = C + 1 by rw [hct]; rfl)
        have hub : IntKind.u64.wrap (i : Int) = (i : Int) := by rw [IntKind.wrap_u64]; omega
        have hnw : IntKind.i64.wrap ((C : Int) + 1) = (C : Int) + 1 := IntWalk.i64_in _ (by omega)
        have hfl := foldN_lt xn hxn.1 hxn.2
        have hps := psz_bd (foldN xn)
        have hf1 := hid (fix1 i (by omega))
        clear hst hct
        obtain ⟨A1, c1, rfl⟩ := Rd.shape ho
        go_wp2_with (fail)
        refine (putx_any _ T i 1 _ _ ho (by omega) (by omega)).mono ?_
        rintro e w6 ⟨v6, rfl, ho6, hB6⟩
        rw [hf1.out] at ho6
        have k6 := k5.below hB6
        have hB6' := hB5.trans (hB6.mono hB5.size)
        have r6 := (Rd.of_own ho6).weak (F' := fun _ => True) (fun _ _ _ => trivial)
        obtain ⟨T2, hT2⟩ : ∃ T2, T2 = T ++ [UInt8.ofNat i] := ⟨_, rfl⟩
        have hT2l : T2.length ≤ 200 := by rw [hT2, List.length_append]; show T.length + 1 ≤ 200; omega
        rw [← hT2] at r6 Hst
        clear hT2 ho6 hB6
        have d1 := k6.cellAt 1 _ rfl
        obtain ⟨A2, c2, rfl⟩ := Rd.shape r6
        go_wp2_with (fail)
        refine (putf_any _ T2 xn _ _ r6 hxn.1 hxn.2 (by omega)).mono ?_
        rintro e w7 ⟨v7, rfl, ho7, hB7⟩
        have hB7' := hB6'.trans (hB7.mono hB6'.size)
        have r7 := (Rd.of_own ho7).weak (F' := fun _ => True) (fun _ _ _ => trivial)
        clear ho7
        go_wp2
        go_roundw
        case rel => exact ⟨i + 1, by omega, by go_num, by rw [Hct.out]; go_num, by rw [Hst.out]; exact r7, hB7'⟩
        case measure => simp [intOf]; omega
    · have hi' : i = 16 := by omega
      subst hi'
      have hI : ¬ (16 : Int) < 16 := by omega
      have e16 : N.take 16 = N := List.take_of_length_le (by omega)
      rw [e16] at ho hT hns ⊢
      have hcw : IntKind.u64.wrap ((cntK N : Nat) : Int) = ((cntK N : Nat) : Int) := by rw [IntKind.wrap_u64]; omega
      have hZ2 : putK N = packed (cntK N) ++ txtK 0 N := rfl
      obtain ⟨C, hCC⟩ : ∃ C, C = cntK N := ⟨_, rfl⟩
      obtain ⟨T, hTT⟩ : ∃ T, T = txtK 0 N := ⟨_, rfl⟩
      rw [← hCC] at hcw hZ2 hns ⊢
      rw [← hTT] at ho hT hZ2
      have HZ := hid hZ2
      clear hZ2 hCC hTT e16
      obtain ⟨A1, c1, rfl⟩ := Rd.shape ho
      have hps := psz_bd C
      have hlp := length_packed C
      have Hlp := hid hlp
      clear hlp
      go_wp2_with (fail)
      refine (putp_any _ [] C _ _ (Rd.nil _ (fun _ => True)) (by omega) (by simp)).mono ?_
      rintro e w4 ⟨v4, rfl, ho4, hB4⟩
      rw [List.nil_append] at ho4
      have hB4' := hBr.trans (hB4.mono hBr.size)
      have ho3 := ho.below hB4
      rw [Hlp.out] at ho4
      obtain ⟨A4, c4, rfl⟩ := own_shape ho4
      go_wp2_with (refine wp_app (.tmp 27) (.tmp 28) slB rfl rfl rfl ho4 rfl ho3.src (oneCell_bvs _) (by simp only [maxLen]; omega) (by omega) hB4.size ?_)
      intro v5 w5 ho5 hG5 _
      have hB5 := hB4'.grown hG5 hB4'.size (fun k hk => Nat.le_trans hBr.size (ho4.lt k hk).1)
      go_wp2
      go_ret
      refine ⟨v5, rfl, ?_, hB.trans (hB5.mono hsz0)⟩
      rw [HZ.out]
      have e1 : bvs (packed C ++ T) = bvs (packed C) ++ bvs T := by unfold bvs; rw [List.map_append]
      rw [e1, List.length_append, Hlp.out]
      exact own_weak ho5 (Nat.le_trans hsz0 hBr.size)
end Go.Proofs.YtfjgfaccfjdklaaDoor
