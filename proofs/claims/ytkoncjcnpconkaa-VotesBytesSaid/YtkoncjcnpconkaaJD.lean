/- JD: layer 13: contracts of votes: came, regencyOf, compare, copied, later. -/
import Derived.Test.YtkoncjcnpconkaaJB
import Derived.Test.YtkoncjcnpconkaaBC
import Derived.Test.YtkoncjcnpconkaaOT
import Derived.Test.YtkoncjcnpconkaaMT
import Derived.Sort.Grow
namespace Go.V
open Go.RowKit
/-- which of two regencies is the greater one -/
def cmpZ (x y : Int) : Int := if x < y then -1 else if y < x then 1 else 0
def orZ (x y : Int) : Int := if x ≠ 0 then x else y
def cmpK (x y : K2) : Int := orZ (cmpZ x.1.1 y.1.1) (cmpZ x.1.2 y.1.2)
/-- blocks and draws behind w -/
def GrowS (w W : World) : Prop := ∃ q os, W = Go.Sort.grow (w.drewN q) os
theorem grow_none (w : World) : Go.Sort.grow w #[] = w := by unfold Go.Sort.grow; rw [Array.append_empty]
theorem GrowS.refl (w : World) : GrowS w w := ⟨0, #[], (grow_none _).symm⟩
theorem GrowS.drew (w : World) : GrowS w w.drew := ⟨1, #[], (grow_none (w.drewN 1)).symm⟩
theorem GrowS.step {w W : World} (h : GrowS w W) {o : Obj} {W' : World} (hw : W' = W.alloc o) : GrowS w W' := by
  obtain ⟨q, os, rfl⟩ := h
  exact ⟨q, os.push o, by rw [hw, Go.Sort.alloc_eq_grow]; simp [Go.Sort.grow]⟩
theorem GrowS.ch {w W : World} (h : GrowS w W) : Ch nob w W := by
  obtain ⟨q, os, rfl⟩ := h
  refine ⟨rfl, rfl, rfl, ?_, fun b hb _ => ?_⟩
  · simp [Go.Sort.grow, World.drewN]
  · simp only [Go.Sort.grow, World.drewN]
    rw [Array.getElem?_append_left hb]
theorem grown_below {w W : World} (h : GrowS w W) : Below w.heap.size w W := h.ch.below
theorem GrowS.trans {a b c : World} (h : GrowS a b) (k : GrowS b c) : GrowS a c := by
  obtain ⟨q, os, rfl⟩ := h
  obtain ⟨r, ps, rfl⟩ := k
  exact ⟨q + r, os ++ ps, by simp [Go.Sort.grow, World.drewN, Nat.add_assoc]⟩
end Go.V
namespace Go.Proofs.Ytkoncjcnpconkaa
open Go.RowKit Go.V
theorem came13_any (m : Vt) (ub up : Value) (w : World) :
    Calls Try.prog 44 #[m.val ub up] w fun e w' => e = .returned (.bool (m.k != 0)) ∧ Below w.heap.size w w' := by
  unfold Vt.val
  have hvb := Blk.new' w 27 (m.l ub up)
  have c0 := hvb.cellAt 0 _ rfl
  go_enter Try.func44, Try.ntmps44
  go_wp2
  go_ret
  exact ⟨rfl, (Below.refl _ _).alloc (Nat.le_refl _) _⟩
theorem sizeRg : (Try.prog.info? 78).map (·.size) = some 2 := by kernel_rfl
theorem zeroRg : (Try.prog.info? 78).map (·.zero) = some (some (.agg [Value.int .i64 0, .int .i64 0].toArray)) := by kernel_rfl
theorem regOf13_any (m : Vt) (ub up : Value) (w : World) :
    Calls Try.prog 63 #[m.val ub up] w fun e w' => e = .returned (.agg #[.int .i64 m.v, .int .i64 m.r]) ∧ Below w.heap.size w w' := by
  unfold Vt.val
  have hvb := Blk.new' w 27 (m.l ub up)
  have hz := Blk.new' (w.alloc (.cells (m.l ub up).toArray 27)) 78 [.int .i64 0, .int .i64 0]
  have hB : Below w.heap.size w ((w.alloc (.cells (m.l ub up).toArray 27)).alloc (.cells [Value.int .i64 0, .int .i64 0].toArray 78)) := ((Below.refl _ _).alloc (Nat.le_refl _) _).alloc (by simp) _
  have hvb := hvb.alloc (.cells [Value.int .i64 0, .int .i64 0].toArray 78)
  go_enter Try.func63, Try.ntmps63
  go_wp2_with (refine wp_new 78 rfl rfl zeroRg ?_; refine wp_stop ?_)
  have hz0 : (w.alloc (.cells (m.l ub up).toArray 27)).heap.size = w.heap.size + 1 := by simp
  rw [hz0] at hz
  obtain ⟨w0, hw0⟩ : ∃ w0, w0 = (w.alloc (.cells (m.l ub up).toArray 27)).alloc (.cells [Value.int .i64 0, .int .i64 0].toArray 78) := ⟨_, rfl⟩
  rw [← hw0] at hvb hz hB ⊢
  try rw [hz0]
  obtain ⟨g, hg⟩ : ∃ g, g = w.heap.size + 1 := ⟨_, rfl⟩
  rw [← hg] at hz ⊢
  have hgw : w.heap.size ≤ g := by omega
  clear hw0 hg hz0
  have c1 := hvb.cellAt 1 _ rfl
  have c2 := hvb.cellAt 2 _ rfl
  refine wp_go ?_
  go_wp2_with (refine wp_st 78 (.tmp 2) (.tmp 7) rfl rfl rfl (f := 0) rfl (l := [.int .i64 m.v, .int .i64 m.r]) rfl hz (by simp) sizeRg (by simp [Value.oneCell']) ?_; intro w2 hz2 hG2; refine wp_stop ?_)
  refine wp_go ?_
  go_wp2
  refine ret_cell rfl rfl hz2.whole Try.underlying78 rfl sizeRg rfl ?_
  exact ⟨rfl, hB.grown hG2 hB.size (by intro k hk; injection hk with hk; omega)⟩
/-! compare: it lays blocks, and turns none -/
theorem nan13_any (x : Int) (w : World) : Calls Try.prog 80 #[.int .i64 x] w fun e w' => e = .returned (.bool false) ∧ w' = w := by
  have h : (x != x) = false := by simp
  go_enter Try.func80, Try.ntmps80
  go_wp2
  go_ret
  exact ⟨by simp, rfl⟩
theorem cmpI13_any (x y : Int) (w : World) : Calls Try.prog 69 #[.int .i64 x, .int .i64 y] w fun e w' => e = .returned (.int .i64 (cmpZ x y)) ∧ w' = w := by
  obtain ⟨q, hq⟩ : ∃ q, q = cmpZ x y := ⟨_, rfl⟩
  rw [← hq]
  unfold cmpZ at hq
  have Hq := hid hq
  clear hq
  go_enter Try.func69, Try.ntmps69
  go_wp2_with (fail)
  refine (nan13_any x _).mono ?_
  rintro e w1 ⟨rfl, hw1⟩
  subst hw1
  go_wp2_with (fail)
  refine (nan13_any y _).mono ?_
  rintro e w1 ⟨rfl, hw1⟩
  subst hw1
  by_cases h1 : x < y
  · have H := hid (Hq.out.trans (if_pos h1))
    clear Hq
    go_wp2
    go_ret
    exact ⟨by rw [H.out]; rfl, rfl⟩
  by_cases h2 : y < x
  · have H := hid ((Hq.out.trans (if_neg h1)).trans (if_pos h2))
    clear Hq
    go_wp2
    go_ret
    exact ⟨by rw [H.out]; rfl, rfl⟩
  have H := hid ((Hq.out.trans (if_neg h1)).trans (if_neg h2))
  clear Hq
  go_wp2
  go_ret
  exact ⟨by rw [H.out]; rfl, rfl⟩
theorem or13_any (x y : Int) (g : Nat) (t : TypeId) (c : Nat) (w : World) (hb : Blk w g t [.int .i64 x, .int .i64 y]) :
    Calls Try.prog 68 #[.slice (some ⟨g, 0, none⟩) 2 c] w fun e w' => e = .returned (.int .i64 (orZ x y)) ∧ w' = w := by
  have c0 := hb.cellAt 0 _ rfl
  have c1 := hb.cellAt 1 _ rfl
  obtain ⟨q, hq⟩ : ∃ q, q = orZ x y := ⟨_, rfl⟩
  rw [← hq]
  unfold orZ at hq
  have Hq := hid hq
  clear hq
  go_enter Try.func68, Try.ntmps68
  by_cases h1 : x = 0
  · have e1 : (x != 0) = false := by simp [h1]
    have H := hid (Hq.out.trans (if_neg (fun h => h h1)))
    clear Hq h1
    by_cases h2 : y = 0
    · have e2 : (y != 0) = false := by simp [h2]
      have H := hid (H.out.trans h2 : q = 0)
      clear h2
      go_wp2
      refine wp_loop_rounds 3 ?_
      rw [rounds_succ]
      go_wp2
      rw [rounds_succ]
      go_wp2
      rw [rounds_succ]
      go_wp2
      go_ret
      exact ⟨by rw [H.out]; rfl, rfl⟩
    · have e2 : (y != 0) = true := by simp [h2]
      clear h2
      go_wp2
      refine wp_loop_rounds 3 ?_
      rw [rounds_succ]
      go_wp2
      rw [rounds_succ]
      go_wp2
      go_ret
      exact ⟨by rw [H.out]; rfl, rfl⟩
  · have e1 : (x != 0) = true := by simp [h1]
    have H := hid (Hq.out.trans (if_pos h1))
    clear Hq h1
    go_wp2
    refine wp_loop_rounds 3 ?_
    rw [rounds_succ]
    go_wp2
    go_ret
    exact ⟨by rw [H.out]; rfl, rfl⟩
section
variable {P : Program} {w : World} {ops : Array Oper} {o : Oper} {a : Act} {K : Act → World → Prop} {Q : Exit → Act → World → Prop} {E : Prop}
theorem step_bs2 (t e : TypeId) (x y : Operand) (hgd : o.guard = none) (ho : o.op = .buildSlice t 2 #[(0, x), (1, y)]) {u v : Value} (hx : a.eval x = u) (hy : a.eval y = v) (hr : ∀ W : World, (Instr.buildSlice t 2 #[(0, u), (1, v)]).run P W = .ok (.slice (some ⟨W.heap.size, 0, none⟩) 2 2) (W.alloc (.cells #[u, v] e)))
    (h : ∀ g w', g = w.heap.size → Blk w' g e [u, v] → w' = w.alloc (.cells #[u, v] e) → K (a.put o.dst (.slice (some ⟨g, 0, none⟩) 2 2)) w') : if Region.wanted o (yielded ops a.tmps) = true then Oper.wp P o a w K Q else E := by
  have hw : Region.wanted o (yielded ops a.tmps) = true := by simp [Region.wanted, hgd]
  rw [if_pos hw]
  have e1 : (Array.map (fun (x : Nat × Operand) => (x.1, a.eval x.2)) #[(0, x), (1, y)]) = #[(0, u), (1, v)] := by simp [hx, hy]
  unfold Oper.wp execOp
  simp only [ho, e1, Sem.run_bind, Sem.run_pure, hr, Result.andThen_ok]
  exact h _ _ rfl (Blk.new' w e [u, v]) rfl
end
set_option maxRecDepth 100000 in
set_option maxHeartbeats 4000000 in
theorem cmp13_any (x y : K2) (w : World) : Calls Try.prog 48 #[x.v, y.v] w fun e w' => e = .returned (.int .i64 (cmpK x y)) ∧ GrowS w w' := by
  unfold K2.v
  obtain ⟨q, hq⟩ : ∃ q, q = cmpK x y := ⟨_, rfl⟩
  rw [← hq]
  unfold cmpK at hq
  have Hq := hid hq
  clear hq
  have hx := Blk.new' w 78 [.int .i64 x.1.1, .int .i64 x.1.2]
  have hg1 : GrowS w (w.alloc (.cells #[.int .i64 x.1.1, .int .i64 x.1.2] 78)) := (GrowS.refl w).step rfl
  have hg2 := hg1.step (o := .cells #[.int .i64 y.1.1, .int .i64 y.1.2] 78) rfl
  have hy := Blk.new' (w.alloc (.cells #[.int .i64 x.1.1, .int .i64 x.1.2] 78)) 78 [.int .i64 y.1.1, .int .i64 y.1.2]
  have hx := hx.alloc (.cells #[.int .i64 y.1.1, .int .i64 y.1.2] 78)
  go_enter Try.func48, Try.ntmps48
  go_upto_region 1 with (fail)
  obtain ⟨w3, hw3⟩ : ∃ w3, w3 = (w.alloc (.cells #[.int .i64 x.1.1, .int .i64 x.1.2] 78)).alloc (.cells #[.int .i64 y.1.1, .int .i64 y.1.2] 78) := ⟨_, rfl⟩
  have hz : (w.alloc (.cells #[.int .i64 x.1.1, .int .i64 x.1.2] 78)).heap.size = w.heap.size + 1 := by simp
  rw [hz] at hy
  rw [← hw3] at hx hy hg2 ⊢
  try rw [hz]
  clear hw3 hz hg1
  obtain ⟨p1, hp1⟩ : ∃ p, p = w.heap.size := ⟨_, rfl⟩
  obtain ⟨p2, hp2⟩ : ∃ p, p = w.heap.size + 1 := ⟨_, rfl⟩
  rw [← hp2] at hy ⊢
  rw [← hp1] at hx ⊢
  clear hp1 hp2
  have H0 : Hid (∀ W, GrowS w3 W → W.cell? ⟨p1, 0, none⟩ = some (.int .i64 x.1.1)) := fun W h => (hx.ch h.ch (fun h => h)).cellAt 0 _ rfl
  have H1 : Hid (∀ W, GrowS w3 W → W.cell? ⟨p2, 0, none⟩ = some (.int .i64 y.1.1)) := fun W h => (hy.ch h.ch (fun h => h)).cellAt 0 _ rfl
  have H2 : Hid (∀ W, GrowS w3 W → W.cell? ⟨p1, 1, none⟩ = some (.int .i64 x.1.2)) := fun W h => (hx.ch h.ch (fun h => h)).cellAt 1 _ rfl
  have H3 : Hid (∀ W, GrowS w3 W → W.cell? ⟨p2, 1, none⟩ = some (.int .i64 y.1.2)) := fun W h => (hy.ch h.ch (fun h => h)).cellAt 1 _ rfl
  clear hx hy
  refine wp_region_noPanic ?_
  refine wp_region_held_drew (S := GrowS w3) (by kernel_rfl) (GrowS.drew w3) (fun hHeld => ?_)
  refine wpAnyH_take (i := 0) (oi := ⟨some 5, _, _, _, _, none⟩) (v := ?_) rfl (by kernel_rfl) (by kernel_rfl) (by kernel_rfl) (fun _ _ _ h => h) (Or.inl ⟨by rfl, ?_⟩) (by assumption) ?_
  rotate_left
  · intro w hSw; go_simp; try with_reducible rfl
  try simp only [Act.put, List.setIfInBounds_toArray, List.set_cons_zero, List.set_cons_succ]
  refine wpAnyH_take (i := 1) (oi := ⟨some 6, _, _, _, _, none⟩) (v := ?_) rfl (by kernel_rfl) (by kernel_rfl) (by kernel_rfl) (fun _ _ _ h => h) (Or.inl ⟨by rfl, ?_⟩) (by assumption) ?_
  rotate_left
  · intro w hSw; have hcw := H0.out w hSw; go_simp; try with_reducible rfl
  try simp only [Act.put, List.setIfInBounds_toArray, List.set_cons_zero, List.set_cons_succ]
  refine wpAnyH_take (i := 2) (oi := ⟨some 7, _, _, _, _, none⟩) (v := ?_) rfl (by kernel_rfl) (by kernel_rfl) (by kernel_rfl) (fun _ _ _ h => h) (Or.inl ⟨by rfl, ?_⟩) (by assumption) ?_
  rotate_left
  · intro w hSw; go_simp; try with_reducible rfl
  try simp only [Act.put, List.setIfInBounds_toArray, List.set_cons_zero, List.set_cons_succ]
  refine wpAnyH_take (i := 3) (oi := ⟨some 8, _, _, _, _, none⟩) (v := ?_) rfl (by kernel_rfl) (by kernel_rfl) (by kernel_rfl) (fun _ _ _ h => h) (Or.inl ⟨by rfl, ?_⟩) (by assumption) ?_
  rotate_left
  · intro w hSw; have hcw := H1.out w hSw; go_simp; try with_reducible rfl
  try simp only [Act.put, List.setIfInBounds_toArray, List.set_cons_zero, List.set_cons_succ]
  refine wpAnyH_take (i := 5) (oi := ⟨some 10, _, _, _, _, none⟩) (v := ?_) rfl (by kernel_rfl) (by kernel_rfl) (by kernel_rfl) (fun _ _ _ h => h) (Or.inl ⟨by rfl, ?_⟩) (by assumption) ?_
  rotate_left
  · intro w hSw; go_simp; try with_reducible rfl
  try simp only [Act.put, List.setIfInBounds_toArray, List.set_cons_zero, List.set_cons_succ]
  refine wpAnyH_take (i := 6) (oi := ⟨some 11, _, _, _, _, none⟩) (v := ?_) rfl (by kernel_rfl) (by kernel_rfl) (by kernel_rfl) (fun _ _ _ h => h) (Or.inl ⟨by rfl, ?_⟩) (by assumption) ?_
  rotate_left
  · intro w hSw; have hcw := H2.out w hSw; go_simp; try with_reducible rfl
  try simp only [Act.put, List.setIfInBounds_toArray, List.set_cons_zero, List.set_cons_succ]
  refine wpAnyH_take (i := 7) (oi := ⟨some 12, _, _, _, _, none⟩) (v := ?_) rfl (by kernel_rfl) (by kernel_rfl) (by kernel_rfl) (fun _ _ _ h => h) (Or.inl ⟨by rfl, ?_⟩) (by assumption) ?_
  rotate_left
  · intro w hSw; go_simp; try with_reducible rfl
  try simp only [Act.put, List.setIfInBounds_toArray, List.set_cons_zero, List.set_cons_succ]
  refine wpAnyH_take (i := 8) (oi := ⟨some 13, _, _, _, _, none⟩) (v := ?_) rfl (by kernel_rfl) (by kernel_rfl) (by kernel_rfl) (fun _ _ _ h => h) (Or.inl ⟨by rfl, ?_⟩) (by assumption) ?_
  rotate_left
  · intro w hSw; have hcw := H3.out w hSw; go_simp; try with_reducible rfl
  try simp only [Act.put, List.setIfInBounds_toArray, List.set_cons_zero, List.set_cons_succ]
  refine wpAnyH_ready (rs := [4]) (by kernel_rfl) (by simp) ?_
  refine AllReadyH.cons (o := ⟨some 9, _, _, _, _, none⟩) rfl (fun K hK => ?_) AllReadyH.nil
  go_simp
  refine (cmpI13_any x.1.1 y.1.1 _).mono ?_
  rintro e' w14 ⟨rfl, hq14⟩
  subst hq14
  refine hK.out _ _ (hHeld) (fun hHeld => ?_)
  clear hK K
  try simp only [Act.put, List.setIfInBounds_toArray, List.set_cons_zero, List.set_cons_succ]
  refine wpAnyH_ready (rs := [9]) (by kernel_rfl) (by simp) ?_
  refine AllReadyH.cons (o := ⟨some 14, _, _, _, _, none⟩) rfl (fun K hK => ?_) AllReadyH.nil
  go_simp
  refine (cmpI13_any x.1.2 y.1.2 _).mono ?_
  rintro e' w19 ⟨rfl, hq19⟩
  subst hq19
  refine hK.out _ _ (hHeld) (fun hHeld => ?_)
  clear hK K
  try simp only [Act.put, List.setIfInBounds_toArray, List.set_cons_zero, List.set_cons_succ]
  refine wpAnyH_ready (rs := [10]) (by kernel_rfl) (by simp) ?_
  refine AllReadyH.cons (o := ⟨some 15, _, _, _, _, none⟩) rfl (fun K hK => ?_) AllReadyH.nil
  refine step_bs2 123 3 (.tmp 9) (.tmp 14) (by rfl) (by rfl) (u := .int .i64 (cmpZ x.1.1 y.1.1)) (v := .int .i64 (cmpZ x.1.2 y.1.2)) (by rfl) (by rfl) (fun W => by kernel_rfl) ?_
  intro g20 w20 hg20 hb20 hw20
  have hC20 := hHeld.step hw20
  clear hw20 hg20
  refine hK.out _ _ (hC20) (fun hHeld => ?_)
  clear hK K
  try simp only [Act.put, List.setIfInBounds_toArray, List.set_cons_zero, List.set_cons_succ]
  refine wpAnyH_ready (rs := [11]) (by kernel_rfl) (by simp) ?_
  refine AllReadyH.cons (o := ⟨some 16, _, _, _, _, none⟩) rfl (fun K hK => ?_) AllReadyH.nil
  go_simp
  refine (or13_any (cmpZ x.1.1 y.1.1) (cmpZ x.1.2 y.1.2) g20 3 2 _ hb20).mono ?_
  rintro e' w21 ⟨rfl, hq21⟩
  subst hq21
  refine hK.out _ _ (hC20) (fun hHeld => ?_)
  clear hK K
  try simp only [Act.put, List.setIfInBounds_toArray, List.set_cons_zero, List.set_cons_succ]
  refine wpAnyH_take (i := 12) (oi := ⟨some 4, _, _, _, _, none⟩) (v := ?_) rfl (by kernel_rfl) (by kernel_rfl) (by kernel_rfl) (fun _ _ _ h => h) (Or.inl ⟨by rfl, ?_⟩) (by assumption) ?_
  rotate_left
  · intro w hSw; go_simp; try with_reducible rfl
  try simp only [Act.put, List.setIfInBounds_toArray, List.set_cons_zero, List.set_cons_succ]
  refine wpAnyH_done (by kernel_rfl) ?_ _
  refine NoPanic.normal ?_
  go_wp2
  go_ret
  exact ⟨by rw [Hq.out]; rfl, hg2.trans hC20⟩
theorem set36v {m : Vt} {u v w : Value} : (m.l u v).set 36 w = m.l w v := by
  have : (bvs m.h ++ [u, v]).set 32 w = bvs m.h ++ [w, v] := by
    rw [List.set_append_right _ _ (by simp [bvs, m.hh])]; simp [bvs, m.hh]
  simpa [Vt.l] using this
theorem set37v {m : Vt} {u v w : Value} : (m.l u v).set 37 w = m.l u w := by
  have : (bvs m.h ++ [u, v]).set 33 w = bvs m.h ++ [u, w] := by
    rw [List.set_append_right _ _ (by simp [bvs, m.hh])]; simp [bvs, m.hh]
  simpa [Vt.l] using this
set_option maxRecDepth 100000 in
set_option maxHeartbeats 4000000 in
theorem copied13_any (m : Vt) (ub up : Value) (F1 F2 : Nat → Prop) (w : World) (hs : VtSm m) (hub : Rd w F1 ub (bys m.b)) (hup : Rd w F2 up (tx m.ps)) :
    Calls Try.prog 45 #[m.val ub up] w fun e w' => ∃ vb vp, e = .returned (m.val vb vp) ∧ Rd w' (fun b => w.heap.size ≤ b) vb (bys m.b) ∧ Rd w' (fun b => w.heap.size ≤ b) vp (tx m.ps) ∧ Below w.heap.size w w' := by
  obtain ⟨hsb, hsn, hst⟩ := hs
  have hh := m.hh
  obtain ⟨AB, cb, rfl⟩ := hub.shape
  obtain ⟨AP, cpp, rfl, _, _⟩ := hup.slShape
  unfold Vt.val
  have hvb := Blk.new' w 27 (m.l (.slice AB m.b.length cb) (.slice AP m.ps.length cpp))
  have hz := Blk.new' (w.alloc (.cells (m.l (.slice AB m.b.length cb) (.slice AP m.ps.length cpp)).toArray 27)) 27 zVl
  have hB : Below w.heap.size w ((w.alloc (.cells (m.l (.slice AB m.b.length cb) (.slice AP m.ps.length cpp)).toArray 27)).alloc (.cells zVl.toArray 27)) := ((Below.refl _ _).alloc (Nat.le_refl _) _).alloc (by simp) _
  have hvb := hvb.alloc (.cells zVl.toArray 27)
  have hub := hub.below hB
  have hup := hup.below hB
  go_enter Try.func45, Try.ntmps45
  go_wp2_with (refine wp_new 27 rfl rfl zeroV13 ?_; refine wp_stop ?_)
  have hz0 : (w.alloc (.cells (m.l (.slice AB m.b.length cb) (.slice AP m.ps.length cpp)).toArray 27)).heap.size = w.heap.size + 1 := by simp
  have hsz : ((w.alloc (.cells (m.l (.slice AB m.b.length cb) (.slice AP m.ps.length cpp)).toArray 27)).alloc (.cells zVl.toArray 27)).heap.size = w.heap.size + 2 := by simp
  rw [hz0] at hz
  obtain ⟨w0, hw0⟩ : ∃ w0, w0 = (w.alloc (.cells (m.l (.slice AB m.b.length cb) (.slice AP m.ps.length cpp)).toArray 27)).alloc (.cells zVl.toArray 27) := ⟨_, rfl⟩
  rw [← hw0] at hvb hz hB hub hup hsz ⊢
  obtain ⟨g, hg⟩ : ∃ g, g = w.heap.size := ⟨_, rfl⟩
  obtain ⟨g2, hg2⟩ : ∃ g, g = w.heap.size + 1 := ⟨_, rfl⟩
  rw [← hg2] at hz ⊢
  rw [← hg] at hvb ⊢
  have hgw : g < w0.heap.size := by omega
  have hgw2 : g2 < w0.heap.size := by omega
  have hgg : w.heap.size ≤ g := by omega
  have hgg2 : w.heap.size ≤ g2 := by omega
  have hne : g ≠ g2 := by omega
  have hBs := hB.size
  clear hw0 hg hg2 hz0 hsz
  refine wp_go ?_
  have c37 := hvb.cellAt 37 _ (vt_parts hh _ _)
  go_wp2
  clear c37
  go_loopw [3, 9] (fun cv iv wr => ∃ (i : Nat) (us : List Value), i ≤ m.ps.length ∧ iv = .int .i64 i ∧ OT wr 24 w0.heap.size nob cv (m.ps.take i) us ∧ Below w0.heap.size w0 wr) (fun _ i _ => m.ps.length - (intOf i).toNat)
  case atStart => exact ⟨0, [], Nat.zero_le _, rfl, by rw [List.take_zero]; exact OT.nil _ _ _ _, Below.refl _ _⟩
  case round =>
    obtain ⟨i, us, hi, rfl, hO, hBr⟩ := hrel
    by_cases hlt : i < m.ps.length
    · obtain ⟨t, ht⟩ : ∃ t, m.ps[i]? = some t := ⟨_, List.getElem?_eq_getElem hlt⟩
      have hI : (i : Int) < (m.ps.length : Int) := by omega
      obtain ⟨G, off, u, rfl, hG, hcu, hu⟩ := Rd.elem (hup.below hBr) i (bys t) (by rw [List.getElem?_map, ht]; rfl)
      obtain ⟨A1, c1, rfl⟩ := hu.shape
      have htl := hst t (List.mem_of_getElem? ht)
      have Htk := hid (take_snocT ht)
      have hil : (m.ps.take i).length = i := by rw [List.length_take]; omega
      clear ht
      go_wp2_with (fail)
      refine (bclone_any t _ _ _ hu (by omega)).mono ?_
      rintro e w2 ⟨v2, rfl, ho2, hB2⟩
      have hs2 := hBr.size
      have hO2 := hO.ch (Ch.of_below hB2) (fun b h => h.elim)
      have hlow := fun k (h : _ = some k) => (hO.own.lt k h).2
      have hr2 : Rd w2 (fun b => w0.heap.size ≤ b ∧ ¬ nob b ∧ _ ≠ some b) v2 (bys t) := (Rd.of_own ho2).weak (fun b _ h => ⟨Nat.le_trans hs2 h, fun h => h, fun e => by have := hlow b e; have h' : wr.heap.size ≤ b := h; omega⟩)
      have hBr := hBr.trans (hB2.mono hs2)
      obtain ⟨A2, k2, rfl⟩ := own_shape ho2
      have hro := hO2.own
      clear hu hcu ho2 hB2 hO
      go_wp2_with (refine wp_push (.tmp 13) (.tmp 15) 16 slBB8 rfl rfl rfl rfl rfl (u := .slice A2 t.length k2) rfl rfl rfl (by simp) rfl hro (by rw [hil]; simp only [maxLen]; omega) (by rw [hil]; omega) hBr.size ?_; intro v4 w4 ho4 hG4 hat4; refine wp_stop ?_)
      have hO4 := hO2.pushG hr2 (fun b h => h.elim) (by rw [hil]; rw [hil] at ho4; exact ho4) hG4 hat4
      have hB4 := hBr.grown hG4 hBr.size (fun k hk => (hro.lt k hk).1)
      rw [← Htk.out] at hO4
      clear hO2 hro hr2 ho4 hG4 hat4 hBr Htk
      refine wp_go ?_
      go_wp2
      go_roundw
      case rel => exact ⟨i + 1, _, by omega, by go_num, hO4, hB4⟩
      case measure => simp [intOf]; omega
    · have hi' : i = m.ps.length := by omega
      subst hi'
      have hI : ¬ (m.ps.length : Int) < (m.ps.length : Int) := by omega
      rw [List.take_length] at hO
      have hvr := hvb.below hBr
      have hzr := hz.below hBr
      have hrp := hO.rd
      have hsr := hBr.size
      obtain ⟨AQ, cq, rfl, _, _⟩ := hrp.slShape
      have c36 := hvr.cellAt 36 _ (vt_body hh _ _)
      clear hO
      go_wp2_with (fail)
      refine (bclone_any m.b F1 _ _ (hub.below hBr) (by omega)).mono ?_
      rintro e w2 ⟨v2, rfl, ho2, hB2⟩
      have hr2 := Rd.of_own ho2
      obtain ⟨A2, k2, rfl⟩ := own_shape ho2
      have hv2 := hvr.below hB2
      have hz2 := hzr.below hB2
      have hrp2 := hrp.below hB2
      have hBr2 := hBr.trans (hB2.mono hBr.size)
      have hls := len_vt m (.slice AB m.b.length cb) (.slice AP m.ps.length cpp)
      have hls2 := len_vt m (.slice A2 m.b.length k2) (.slice AP m.ps.length cpp)
      clear c36 ho2 hvr hzr hrp hB2
      go_wp2_with (refine wp_st1 24 (.tmp 23) (.tmp 21) rfl rfl rfl (f := 36) rfl (v := .slice A2 m.b.length k2) rfl hv2 (by rw [hls]; omega) sizeSl8 rfl rfl ?_; intro w3 hv3 hG3; refine wp_stop ?_)
      rw [set36v] at hv3
      have hz3 := hz2.keep (hG3.block _ hz2.lt (by intro h; injection h with h; exact hne h.symm))
      have hr3 := hr2.keep (F' := fun b => w0.heap.size ≤ b) (fun b hb hF => ⟨Nat.le_trans hsr hF, hG3.block _ hb (by intro h; injection h with h; have h' : wr.heap.size ≤ b := hF; omega)⟩)
      have hrp3 := hrp2.keep (F' := fun b => w0.heap.size ≤ b) (fun b hb hF => ⟨hF, hG3.block _ hb (by intro h; injection h with h; have h' : w0.heap.size ≤ b := hF; omega)⟩)
      have hB3 := (hB.trans (hBr2.mono hB.size)).grown hG3 (Nat.le_trans hBs hBr2.size) (fun k hk => by injection hk with hk; omega)
      clear hv2 hz2 hr2 hrp2 hG3 hBr2
      refine wp_go ?_
      go_wp2_with (refine wp_st1 25 (.tmp 24) (.tmp 22) rfl rfl rfl (f := 37) rfl (v := .slice AQ m.ps.length cq) rfl hv3 (by rw [hls2]; omega) sizeSS8 rfl rfl ?_; intro w4 hv4 hG4; refine wp_stop ?_)
      rw [set37v] at hv4
      have hz4 := hz3.keep (hG4.block _ hz3.lt (by intro h; injection h with h; exact hne h.symm))
      have hr4 := hr3.keep (F' := fun b => w0.heap.size ≤ b) (fun b hb hF => ⟨hF, hG4.block _ hb (by intro h; injection h with h; have h' : w0.heap.size ≤ b := hF; omega)⟩)
      have hrp4 := hrp3.keep (F' := fun b => w0.heap.size ≤ b) (fun b hb hF => ⟨hF, hG4.block _ hb (by intro h; injection h with h; have h' : w0.heap.size ≤ b := hF; omega)⟩)
      have hB4 := hB3.grown hG4 hB3.size (fun k hk => by injection hk with hk; omega)
      have hls3 := len_vt m (.slice A2 m.b.length k2) (.slice AQ m.ps.length cq)
      clear hv3 hz3 hr3 hrp3 hG4 hB3
      obtain ⟨L, hL⟩ : ∃ L, L = m.l (.slice A2 m.b.length k2) (.slice AQ m.ps.length cq) := ⟨_, rfl⟩
      have h1L : ∀ v ∈ L, v.oneCell' = true := by rw [hL]; exact one_vt
      rw [← hL] at hv4 hls3
      have HL := hid hL
      clear hL
      refine wp_go ?_
      go_wp2_with (first | refine wp_ld 27 (.tmp 1) rfl rfl rfl hv4.whole Try.underlying27 rfl (by rw [hls3]; exact sizeVt) ?_ | (refine wp_st 27 (.tmp 2) (.tmp 25) rfl rfl rfl (f := 0) rfl (l := L) rfl hz4 (by rw [hls3, len_zVl]; omega) (by rw [hls3]; exact sizeVt) h1L ?_; intro w5 hz5 hG5; refine wp_stop ?_))
      have hr5 := hr4.keep (F' := fun b => w0.heap.size ≤ b) (fun b hb hF => ⟨hF, hG5.block _ hb (by intro h; injection h with h; have h' : w0.heap.size ≤ b := hF; omega)⟩)
      have hrp5 := hrp4.keep (F' := fun b => w0.heap.size ≤ b) (fun b hb hF => ⟨hF, hG5.block _ hb (by intro h; injection h with h; have h' : w0.heap.size ≤ b := hF; omega)⟩)
      have hB5 := hB4.grown hG5 hB4.size (fun k hk => by injection hk with hk; omega)
      rw [show zVl.take 0 ++ L ++ zVl.drop (0 + L.length) = L from by rw [hls3]; simp [zVl, zs8]] at hz5
      clear hv4 hz4 hr4 hrp4 hG5 hB4
      refine wp_go ?_
      go_wp2
      refine ret_cell rfl rfl hz5.whole Try.underlying27 rfl (by rw [hls3]; exact sizeVt) rfl ?_
      exact ⟨_, _, by rw [HL.out], hr5.weak (fun b _ h => Nat.le_trans hBs h), hrp5.weak (fun b _ h => Nat.le_trans hBs h), hB5⟩
end Go.Proofs.Ytkoncjcnpconkaa
