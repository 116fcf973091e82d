/- FC: opening arguments of layer 17: what is asked (a view and a message), two lists of texts. -/
import Derived.Test.YtddeeigdcolegaaDoorF9
import Derived.Test.YtddeeigdcolegaaDoorFW
import Derived.Test.YtddeeigdcolegaaDoorC3
namespace Go.Proofs.YtddeeigdcolegaaDoor
open Go.ChangeShapes Go.WideShapes Go.ChangeAt Go.RowKit Go.Joins Go.Deep Go.V
/-- what is said of the types of what is asked -/
structure AkTy (P : Program) (t : TypeId) : Prop where
  it : ∃ f0 f1 e0 e1 : Field, P.underlying t = some (.struct #[f0, f1]) ∧ [f0.offset, f1.offset] = [0, 2] ∧ [P.cellsOf t, P.cellsOf f0.type, P.cellsOf f1.type] = [41, 2, 39] ∧
    P.underlying f0.type = some (.struct #[e0, e1]) ∧ [e0.offset, e1.offset] = [0, 1] ∧ [P.cellsOf e0.type, P.cellsOf e1.type] = [1, 1] ∧ P.underlying e0.type = some (.int .i64) ∧ P.underlying e1.type = some (.int .u16) ∧ MgTy P f1.type
/-- an argument that is what is asked -/
theorem open_ask {H : Type} {enc : TypeId × Value → H} {P : Program} {W : World} {base : Nat} {t : TypeId} (hT : AkTy P t) {v : Value} {d : DataW H} {p : List MemPlace} (hv : Value.okWide P W .any base t v) (h : DataW.Trod enc P W 0 (fun _ => true) true t v d p) :
    ∃ (V : Vc) (m : Mg) (ub up : Value), v = .agg (aK V m ub up).toArray ∧ Rd W (fun _ => True) ub (bys m.b) ∧ Rd W (fun _ => True) up (tx m.ps) ∧ MgIn m ∧ in64w V.n ∧ V.m < 65536 := by
  obtain ⟨f0, f1, e0, e1, ht, hof, hcl, h0, hoe, hce, g0, g1, hM⟩ := hT.it
  obtain ⟨cs, rfl, _⟩ := okWide_struct ht hv
  obtain ⟨fuel, hf⟩ := h
  obtain ⟨cs⟩ := cs
  have hf : DataW.trod enc P W 0 (fun _ => true) true fuel t cs = some (d, p) := hf
  obtain ⟨y0, y1, n, _, hl, r0, r1⟩ := trod_struct2 ht hf
  simp only [List.cons.injEq, and_true] at hof hcl hoe hce
  obtain ⟨o0, o1⟩ := hof
  obtain ⟨k, k0, k1⟩ := hcl
  obtain ⟨p0, p1⟩ := hoe
  obtain ⟨q0, q1⟩ := hce
  rw [k] at hl
  rw [o0, k0] at r0
  rw [o1, k1] at r1
  match cs, hl with
  | c0 :: c1 :: rest, hl =>
    have hrl : rest.length = 39 := by simpa using hl
    obtain ⟨z0, z1, mm, _, _, s0, s1⟩ := trod_struct2 h0 r0
    rw [p0, q0] at s0
    rw [p1, q1] at s1
    obtain ⟨N, a0, _, w0⟩ := DataW.trod_int g0 s0
    obtain ⟨X, a1, _, w1⟩ := DataW.trod_int g1 s1
    obtain ⟨M, rfl, hMb⟩ := u16_of_wf w1
    simp only [List.drop_zero, List.drop_succ_cons, List.take_succ_cons, List.take_zero, List.cons.injEq, and_true] at a0 a1 r1
    obtain ⟨m, ub, up, hc, hR, hX, hm⟩ := open_mgc hM r1
    rw [List.take_of_length_le (by omega)] at hc
    subst a0 a1 hc
    exact ⟨⟨N, M⟩, m, ub, up, rfl, hR, hX, hm, i64_of_wf w0, hMb⟩
/-- an argument that is two lists of texts -/
theorem open_two {H : Type} {enc : TypeId × Value → H} {P : Program} {W : World} {t e q b : TypeId} (ht : P.underlying t = some (.array 2 e)) (he : P.underlying e = some (.slice q)) (hq : P.underlying q = some (.slice b)) (hb : P.underlying b = some (.int .u8)) (hct : P.cellsOf t = 2) (hce : P.cellsOf e = 1) (cq : P.cellsOf q = 1) (cb : P.cellsOf b = 1)
    {v : Value} {d : DataW H} {p : List MemPlace} (h : DataW.Trod enc P W 0 (fun _ => true) true t v d p) : ∃ (u0 u1 : Value) (l0 l1 : List (List UInt8)), v = .agg #[u0, u1] ∧ Rd W (fun _ => True) u0 (tx l0) ∧ Rd W (fun _ => True) u1 (tx l1) := by
  obtain ⟨fuel, hf⟩ := h
  obtain ⟨xs, m, rfl, hx, hl, hn, hel⟩ := DataW.trod_array ht hf
  rw [hct] at hl
  have hag : ∃ cs : Array Value, v = .agg cs := by
    cases v <;> first | exact ⟨_, rfl⟩ | (simp [Value.cells] at hl)
  obtain ⟨⟨l⟩, rfl⟩ := hag
  have hl' : l.length = 2 := by simpa [Value.cells] using hl
  match l, hl' with
  | [u0, u1], _ =>
    have h0 := hel 0 (by omega)
    have h1 := hel 1 (by omega)
    rw [hce, List.getElem?_eq_getElem (by omega)] at h0 h1
    obtain ⟨l0, R0⟩ := open_txc he hq hb cq cb (v := u0) h0
    obtain ⟨l1, R1⟩ := open_txc he hq hb cq cb (v := u1) h1
    exact ⟨u0, u1, l0, l1, rfl, R0, R1⟩
theorem akTy : AkTy Tryd.prog 32 := ⟨⟨_, _, _, _, Tryd.underlying32, by kernel_rfl, by kernel_rfl, Tryd.underlying24, by kernel_rfl, by kernel_rfl, Tryd.underlying3, Tryd.underlying22, mgTy⟩⟩
def zAk : List Value := .int .i64 0 :: .int .u16 0 :: zM
end Go.Proofs.YtddeeigdcolegaaDoor
