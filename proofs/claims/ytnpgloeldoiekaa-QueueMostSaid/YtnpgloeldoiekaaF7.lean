/- F7: opening arguments that are requests, and lists of them. No project text. -/
import Derived.Test.YtnpgloeldoiekaaQ3
import Derived.Test.YtnpgloeldoiekaaF
import Derived.Lib.SmallJoins
import Derived.Deep.Slices
namespace Go.V
open Go.ChangeShapes Go.WideShapes Go.ChangeAt Go.RowKit Go.Joins Go.Deep
/-- what is said of the types of a request -/
structure RqTy (P : Program) (t : TypeId) : Prop where
  it : ∃ f0 f1 f2 f3 e0 e1 e2 e3 : Field, ∃ b : TypeId, P.underlying t = some (.struct #[f0, f1, f2, f3]) ∧ [f0.offset, f1.offset, f2.offset, f3.offset] = [0, 1, 2, 6] ∧ [P.cellsOf t, P.cellsOf f0.type, P.cellsOf f1.type, P.cellsOf f2.type, P.cellsOf f3.type] = [7, 1, 1, 4, 1] ∧
    P.underlying f0.type = some (.int .i64) ∧ P.underlying f1.type = some (.int .i64) ∧ P.underlying f2.type = some (.struct #[e0, e1, e2, e3]) ∧ P.underlying f3.type = some (.slice b) ∧
    [e0.offset, e1.offset, e2.offset, e3.offset] = [0, 1, 2, 3] ∧ [P.cellsOf e0.type, P.cellsOf e1.type, P.cellsOf e2.type, P.cellsOf e3.type] = [1, 1, 1, 1] ∧
    P.underlying e0.type = some (.int .i64) ∧ P.underlying e1.type = some (.int .i64) ∧ P.underlying e2.type = some (.int .i64) ∧ P.underlying e3.type = some (.int .i64) ∧ P.underlying b = some (.int .u8) ∧ P.cellsOf b = 1
theorem open_rqc {H : Type} {enc : TypeId × Value → H} {P : Program} {W : World} {t : TypeId} (hT : RqTy P t) {fuel : Nat} {cs : List Value} {x : DataW H × List MemPlace} (h : DataW.trod enc P W 0 (fun _ => true) true fuel t cs = some x) :
    ∃ (r : Rq) (u : Value), cs = r.l u ∧ Rd W (fun _ => True) u (bys r.g) ∧ in64 r.a ∧ in64 r.b := by
  obtain ⟨f0, f1, f2, f3, e0, e1, e2, e3, b, ht, hof, hcl, h0, h1, h2, h3, hoe, hce, g0, g1, g2, g3, hb, hcb⟩ := hT.it
  obtain ⟨y0, y1, y2, y3, n, _, hl, r0, r1, r2, r3⟩ := trod_struct4 ht h
  simp only [List.cons.injEq, and_true] at hof hcl hoe hce
  obtain ⟨o0, o1, o2, o3⟩ := hof
  obtain ⟨k, k0, k1, k2, k3⟩ := hcl
  obtain ⟨p0, p1, p2, p3⟩ := hoe
  obtain ⟨q0, q1, q2, q3⟩ := hce
  rw [k] at hl
  rw [o0, k0] at r0
  rw [o1, k1] at r1
  rw [o2, k2] at r2
  rw [o3, k3] at r3
  match cs, hl with
  | [c0, c1, c2, c3, c4, c5, c6], _ =>
    obtain ⟨z0, z1, z2, z3, m, _, _, s0, s1, s2, s3⟩ := trod_struct4 h2 r2
    rw [p0, q0] at s0
    rw [p1, q1] at s1
    rw [p2, q2] at s2
    rw [p3, q3] at s3
    obtain ⟨C, e0, _, _⟩ := DataW.trod_int h0 r0
    obtain ⟨S, e1, _, _⟩ := DataW.trod_int h1 r1
    obtain ⟨K, e2, _, _⟩ := DataW.trod_int g0 s0
    obtain ⟨Y, e3, _, _⟩ := DataW.trod_int g1 s1
    obtain ⟨A, e4, _, wa⟩ := DataW.trod_int g2 s2
    obtain ⟨B, e5, _, wb⟩ := DataW.trod_int g3 s3
    simp only [List.drop_zero, List.drop_succ_cons, List.take_succ_cons, List.take_zero, List.cons.injEq, and_true] at e0 e1 e2 e3 e4 e5
    obtain ⟨bs, hR⟩ := open_bysc h3 hb hcb (v := c6) r3
    subst e0 e1 e2 e3 e4 e5
    exact ⟨⟨C, S, K, Y, A, B, bs⟩, c6, rfl, hR, i64_of_wf wa, i64_of_wf wb⟩
/-- an argument that is a request -/
theorem open_req {H : Type} {enc : TypeId × Value → H} {P : Program} {W : World} {base : Nat} {t : TypeId} (hT : RqTy P t) {v : Value} {d : DataW H} {p : List MemPlace} (hv : Value.okWide P W .any base t v) (h : DataW.Trod enc P W 0 (fun _ => true) true t v d p) :
    ∃ (r : Rq) (u : Value), v = r.v u ∧ Rd W (fun _ => True) u (bys r.g) ∧ in64 r.a ∧ in64 r.b := by
  obtain ⟨f0, f1, f2, f3, e0, e1, e2, e3, b, ht, _⟩ := hT.it
  obtain ⟨cs, rfl, _⟩ := okWide_struct ht hv
  obtain ⟨fuel, hf⟩ := h
  obtain ⟨r, u, hc, h1, h2, h3⟩ := open_rqc hT hf
  obtain ⟨cs⟩ := cs
  have hc : cs = r.l u := hc
  subst hc
  exact ⟨r, u, rfl, h1, h2, h3⟩
end Go.V
namespace Go.Proofs.Ytnpgloeldoiekaa
open Go.RowKit Go.V
theorem rqTy : RqTy Try.prog 32 := ⟨⟨_, _, _, _, _, _, _, _, _, Try.underlying32, by kernel_rfl, by kernel_rfl, Try.underlying3, Try.underlying3, Try.underlying29, Try.underlying30, by kernel_rfl, by kernel_rfl, Try.underlying3, Try.underlying3, Try.underlying2, Try.underlying2, Try.underlying5, by kernel_rfl⟩⟩
end Go.Proofs.Ytnpgloeldoiekaa
