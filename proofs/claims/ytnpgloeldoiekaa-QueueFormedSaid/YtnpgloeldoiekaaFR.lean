/- FR: opening arguments that are replies, or six of them. -/
import Derived.Test.YtnpgloeldoiekaaFW
import Derived.Test.YtnpgloeldoiekaaA0
namespace Go.Proofs.Ytnpgloeldoiekaa
open Go.ChangeShapes Go.WideShapes Go.ChangeAt Go.RowKit Go.Joins Go.Deep Go.V
/-- what is said of the types of a reply -/
structure RpTy (P : Program) (t : TypeId) : Prop where
  it : ∃ f0 f1 f2 f3 e0 e1 : Field, P.underlying t = some (.struct #[f0, f1, f2, f3]) ∧ [f0.offset, f1.offset, f2.offset, f3.offset] = [0, 1, 2, 3] ∧ [P.cellsOf t, P.cellsOf f0.type, P.cellsOf f1.type, P.cellsOf f2.type, P.cellsOf f3.type] = [5, 1, 1, 1, 2] ∧
    P.underlying f0.type = some (.int .i64) ∧ P.underlying f1.type = some (.int .i64) ∧ P.underlying f2.type = some (.int .i64) ∧ P.underlying f3.type = some (.struct #[e0, e1]) ∧
    [e0.offset, e1.offset] = [0, 1] ∧ [P.cellsOf e0.type, P.cellsOf e1.type] = [1, 1] ∧ P.underlying e0.type = some .bool ∧ P.underlying e1.type = some (.int .i64)
theorem open_rpc {H : Type} {enc : TypeId × Value → H} {P : Program} {W : World} {t : TypeId} (hT : RpTy P t) {fuel : Nat} {cs : List Value} {x : DataW H × List MemPlace} (h : DataW.trod enc P W 0 (fun _ => true) true fuel t cs = some x) : ∃ r : Rp, cs = r.l ∧ RpIn r := by
  obtain ⟨f0, f1, f2, f3, e0, e1, ht, hof, hcl, h0, h1, h2, h3, hoe, hce, g0, g1⟩ := hT.it
  obtain ⟨y0, y1, y2, y3, n, _, hl, r0, r1, r2, r3⟩ := trod_struct4 ht h
  simp only [List.cons.injEq, and_true] at hof hcl hoe hce
  obtain ⟨o0, o1, o2, o3⟩ := hof
  obtain ⟨k, k0, k1, k2, k3⟩ := hcl
  obtain ⟨p0, p1⟩ := hoe
  obtain ⟨q0, q1⟩ := hce
  rw [k] at hl
  rw [o0, k0] at r0
  rw [o1, k1] at r1
  rw [o2, k2] at r2
  rw [o3, k3] at r3
  match cs, hl with
  | [c0, c1, c2, c3, c4], _ =>
    obtain ⟨z0, z1, m, _, _, s0, s1⟩ := trod_struct2 h3 r3
    rw [p0, q0] at s0
    rw [p1, q1] at s1
    obtain ⟨C, e0, _, _⟩ := DataW.trod_int h0 r0
    obtain ⟨S, e1, _, _⟩ := DataW.trod_int h1 r1
    obtain ⟨K, e2, _, _⟩ := DataW.trod_int h2 r2
    obtain ⟨O, e3, _⟩ := DataW.trod_bool g0 s0
    obtain ⟨N, e4, _, wn⟩ := DataW.trod_int g1 s1
    simp only [List.drop_zero, List.drop_succ_cons, List.take_succ_cons, List.take_zero, List.cons.injEq, and_true] at e0 e1 e2 e3 e4
    subst e0 e1 e2 e3 e4
    exact ⟨⟨C, S, K, O, N⟩, rfl, ⟨i64_of_wf wn⟩⟩
theorem RpTy.cells {P : Program} {t : TypeId} (hT : RpTy P t) : P.cellsOf t = 5 := by
  obtain ⟨_, _, _, _, _, _, _, _, hcl, _⟩ := hT.it
  simp only [List.cons.injEq, and_true] at hcl
  exact hcl.1
/-- cells that are the last replies -/
theorem open_lastc {H : Type} {enc : TypeId × Value → H} {P : Program} {W : World} {t e : TypeId} (ht : P.underlying t = some (.array 6 e)) (hT : RpTy P e) (hct : P.cellsOf t = 30) {fuel : Nat} {cs : List Value} {y : DataW H × List MemPlace} (hf : DataW.trod enc P W 0 (fun _ => true) true fuel t cs = some y) : ∃ a : List Rp, cs = ras a ∧ a.length = 6 ∧ ∀ p ∈ a, RpIn p :=
  open_arrc ht hT.cells hct Rp.l RpIn (fun _ _ _ h => open_rpc hT h) hf
/-- an argument that is the last replies -/
theorem open_last {H : Type} {enc : TypeId × Value → H} {P : Program} {W : World} {t e : TypeId} (ht : P.underlying t = some (.array 6 e)) (hT : RpTy P e) (hct : P.cellsOf t = 30) {v : Value} {d : DataW H} {p : List MemPlace} (h : DataW.Trod enc P W 0 (fun _ => true) true t v d p) : ∃ a : List Rp, v = .agg (ras a).toArray ∧ a.length = 6 ∧ ∀ p ∈ a, RpIn p := by
  obtain ⟨fuel, hf⟩ := h
  obtain ⟨a, h1, h2, h3⟩ := open_lastc ht hT hct hf
  have hag : ∃ cs : Array Value, v = .agg cs := by
    have hl : v.cells.toList.length = 30 := by rw [h1, len_ras, h2]
    cases v <;> first | exact ⟨_, rfl⟩ | (simp [Value.cells] at hl)
  obtain ⟨⟨l⟩, rfl⟩ := hag
  have h1 : l = ras a := h1
  subst h1
  exact ⟨a, rfl, h2, h3⟩
theorem rpTy : RpTy Try.prog 36 := ⟨⟨_, _, _, _, _, _, Try.underlying36, by kernel_rfl, by kernel_rfl, Try.underlying3, Try.underlying3, Try.underlying3, Try.underlying34, by kernel_rfl, by kernel_rfl, Try.underlying4, Try.underlying2⟩⟩
end Go.Proofs.Ytnpgloeldoiekaa
