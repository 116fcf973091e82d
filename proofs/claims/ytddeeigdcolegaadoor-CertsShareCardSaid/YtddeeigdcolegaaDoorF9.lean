/- F9: opening an argument that is a message. -/
import Derived.Test.YtddeeigdcolegaaDoorY0
import Derived.Test.YtddeeigdcolegaaDoorF2
import Derived.Lib.SmallJoins
namespace Go.V
open Go.ChangeShapes Go.WideShapes Go.ChangeAt Go.RowKit Go.Joins Go.Deep
/-- what is said of the types of a message -/
structure MgTy (P : Program) (t : TypeId) : Prop where
  it : ∃ f0 f1 f2 f3 f4 f5 f6 f7 : Field, ∃ b e : TypeId, P.underlying t = some (.struct #[f0, f1, f2, f3, f4, f5, f6, f7]) ∧ [f0.offset, f1.offset, f2.offset, f3.offset, f4.offset, f5.offset, f6.offset, f7.offset] = [0, 1, 2, 3, 4, 5, 37, 38] ∧
    [P.cellsOf t, P.cellsOf f0.type, P.cellsOf f1.type, P.cellsOf f2.type, P.cellsOf f3.type, P.cellsOf f4.type, P.cellsOf f5.type, P.cellsOf f6.type, P.cellsOf f7.type] = [39, 1, 1, 1, 1, 1, 32, 1, 1] ∧
    P.underlying f0.type = some (.int .i64) ∧ P.underlying f1.type = some (.int .i64) ∧ P.underlying f2.type = some (.int .i64) ∧ P.underlying f3.type = some (.int .i64) ∧ P.underlying f4.type = some (.int .i64) ∧
    P.underlying f5.type = some (.array 32 b) ∧ P.underlying f6.type = some (.slice b) ∧ P.underlying f7.type = some (.slice e) ∧ P.underlying e = some (.slice b) ∧ P.underlying b = some (.int .u8) ∧ P.cellsOf b = 1 ∧ P.cellsOf e = 1
theorem open_mgc {H : Type} {enc : TypeId × Value → H} {P : Program} {W : World} {t : TypeId} (hT : MgTy P t) {fuel : Nat} {cs : List Value} {x : DataW H × List MemPlace} (h : DataW.trod enc P W 0 (fun _ => true) true fuel t cs = some x) :
    ∃ (m : Mg) (ub up : Value), cs = m.l ub up ∧ Rd W (fun _ => True) ub (bys m.b) ∧ Rd W (fun _ => True) up (tx m.ps) ∧ MgIn m := by
  obtain ⟨f0, f1, f2, f3, f4, f5, f6, f7, b, e, ht, hof, hcl, h0, h1, h2, h3, h4, h5, h6, h7, he, hb, hcb, hce⟩ := hT.it
  obtain ⟨xs, n, _, _, hl, hlen, hf⟩ := DataW.trod_struct ht h
  simp only [List.cons.injEq, and_true] at hof hcl
  obtain ⟨o0, o1, o2, o3, o4, o5, o6, o7⟩ := hof
  obtain ⟨k, k0, k1, k2, k3, k4, k5, k6, k7⟩ := hcl
  have r0 := hf 0 f0 rfl
  have r1 := hf 1 f1 rfl
  have r2 := hf 2 f2 rfl
  have r3 := hf 3 f3 rfl
  have r4 := hf 4 f4 rfl
  have r5 := hf 5 f5 rfl
  have r6 := hf 6 f6 rfl
  have r7 := hf 7 f7 rfl
  rw [k] at hl
  rw [o0, k0] at r0
  rw [o1, k1] at r1
  rw [o2, k2] at r2
  rw [o3, k3] at r3
  rw [o4, k4] at r4
  rw [o5, k5] at r5
  rw [o6, k6] at r6
  rw [o7, k7] at r7
  have hxl : xs.length = 8 := hlen
  match xs, hxl with
  | [y0, y1, y2, y3, y4, y5, y6, y7], _ =>
    match cs, hl with
    | c0 :: c1 :: c2 :: c3 :: c4 :: rest, hl =>
      have hrl : rest.length = 34 := by simpa using hl
      obtain ⟨K, e0, _, w0⟩ := DataW.trod_int h0 r0
      obtain ⟨Fv, e1, _, w1⟩ := DataW.trod_int h1 r1
      obtain ⟨V, e2, _, w2⟩ := DataW.trod_int h2 r2
      obtain ⟨R, e3, _, w3⟩ := DataW.trod_int h3 r3
      obtain ⟨S, e4, _, w4⟩ := DataW.trod_int h4 r4
      simp only [List.drop_zero, List.drop_succ_cons, List.take_succ_cons, List.take_zero, List.cons.injEq, and_true] at e0 e1 e2 e3 e4 r5 r6 r7
      obtain ⟨hs, hv, hhl⟩ := open_hash h5 hb hcb k5 (v := .agg (rest.take 32).toArray) ⟨n, r5⟩
      have hv' : rest.take 32 = bvs hs := by
        injection hv with hv
        have := congrArg Array.toList hv
        simpa using this
      have hr2 : ∃ u0 u1, rest.drop 32 = [u0, u1] := by
        have hd : (rest.drop 32).length = 2 := by rw [List.length_drop]; omega
        match hq : rest.drop 32, hd with
        | [u0, u1], _ => exact ⟨u0, u1, rfl⟩
      obtain ⟨u0, u1, hu⟩ := hr2
      have hu33 : rest.drop 33 = [u1] := by rw [show 33 = 32 + 1 from rfl, ← List.drop_drop, hu]; rfl
      rw [hu] at r6
      rw [hu33] at r7
      obtain ⟨bs, hR⟩ := open_bysc h6 hb hcb (v := u0) r6
      obtain ⟨ts, hX⟩ := open_txc h7 he hb hce hcb (v := u1) r7
      have hrest : rest = bvs hs ++ [u0, u1] := by rw [← hv', ← hu, List.take_append_drop]
      subst e0 e1 e2 e3 e4 hrest
      exact ⟨⟨K, Fv, V, R, S, hs, bs, ts⟩, u0, u1, rfl, hR, hX, ⟨i64_of_wf w0, i64_of_wf w1, i64_of_wf w2, i64_of_wf w3, i64_of_wf w4, hhl⟩⟩
/-- an argument that is a message -/
theorem open_msg {H : Type} {enc : TypeId × Value → H} {P : Program} {W : World} {base : Nat} {t : TypeId} (hT : MgTy P t) {v : Value} {d : DataW H} {p : List MemPlace} (hv : Value.okWide P W .any base t v) (h : DataW.Trod enc P W 0 (fun _ => true) true t v d p) :
    ∃ (m : Mg) (ub up : Value), v = m.val ub up ∧ Rd W (fun _ => True) ub (bys m.b) ∧ Rd W (fun _ => True) up (tx m.ps) ∧ MgIn m := by
  obtain ⟨f0, f1, f2, f3, f4, f5, f6, f7, b, e, ht, _⟩ := hT.it
  obtain ⟨cs, rfl, _⟩ := okWide_struct ht hv
  obtain ⟨fuel, hf⟩ := h
  obtain ⟨m, ub, up, hc, h1, h2, h3⟩ := open_mgc hT hf
  obtain ⟨cs⟩ := cs
  have hc : cs = m.l ub up := hc
  subst hc
  exact ⟨m, ub, up, rfl, h1, h2, h3⟩
end Go.V
namespace Go.Proofs.YtddeeigdcolegaaDoor
open Go.RowKit Go.V
theorem mgTy : MgTy Tryd.prog 30 := ⟨⟨_, _, _, _, _, _, _, _, _, _, Tryd.underlying30, by kernel_rfl, by kernel_rfl, Tryd.underlying3, Tryd.underlying3, Tryd.underlying3, Tryd.underlying3, Tryd.underlying3, Tryd.underlying26, Tryd.underlying27, Tryd.underlying28, Tryd.underlying27, Tryd.underlying5, by kernel_rfl, by kernel_rfl⟩⟩
end Go.Proofs.YtddeeigdcolegaaDoor
