/- U1: layer 14: contract of the document's Same. -/
import Derived.Test.YtfjgfaccfjdklaaU0
import Derived.Test.YtfjgfaccfjdklaaVE
import Derived.Deep.DeepCutAuto
import Derived.Deep.RegionHeld3
namespace Go.V
open Go.RowKit
theorem yi_ixp {P : Program} {ops : Array Oper} {S : World → Prop} {o : Oper} {a : Act} (hw : Region.wanted o (yielded ops a.tmps) = true) (t : TypeId) (x y : Operand) (ho : o.op = .indexAddr t x y) {g off n : Nat} (hx : a.eval x = .pointer (some ⟨g, off, none⟩)) {i : Nat} (hy : a.eval y = .int .i64 (i : Int))
    {e : TypeId} (hu : P.underlying t = some (.array n e)) (hi : i < n) {s : Nat} (hsz : (P.info? e).map (·.size) = some s) : YieldsIf P ops S o (.pointer (some ⟨g, off + i * s, none⟩)) a := by
  refine .inl ⟨hw, fun w _ => ?_⟩
  cases hq : P.info? e with
  | none => simp [hq] at hsz
  | some f =>
    have hs : f.size = s := by simpa [hq] using hsz
    have h1 : (0 : Int) ≤ (i : Int) ∧ (i : Int) < (n : Int) := by omega
    have hr : (Instr.indexAt t (.pointer (some ⟨g, off, none⟩)) (.int .i64 (i : Int))).run P w = .ok (.pointer (some ⟨g, off + i * s, none⟩)) w := by
      simp [Instr.indexAt, asIntOf, run_underlying hu, sizeOf, typeInfo, hq, hs, h1, add_mk, Instr.sureAddr]
      intro hh
      exact absurd hh (by omega)
    unfold execOp
    simp only [ho, hx, hy, Sem.run_bind, Sem.run_pure, hr, Result.andThen_ok]
/-- as far as they were looked at, the same -/
def SameTo (a b : List Cl) (i : Nat) : Prop := ∀ j x y, j < i → a[j]? = some x → b[j]? = some y → nmC x = nmC y
theorem same_step {a b : List Cl} {i : Nat} {x y : Cl} (h : SameTo a b i) (hx : a[i]? = some x) (hy : b[i]? = some y) (he : nmC x = nmC y) : SameTo a b (i + 1) := fun j u v hj hu hv => by
  rcases Nat.lt_or_ge j i with h' | h'
  · exact h j u v h' hu hv
  · have : j = i := by omega
    subst this
    rw [hx] at hu
    rw [hy] at hv
    injection hu with hu
    injection hv with hv
    rw [← hu, ← hv, he]
theorem same_end {a b : List Cl} (ha : a.length = 16) (hb : b.length = 16) (h : SameTo a b 16) : nmF a = nmF b := by
  apply List.ext_getElem?
  intro j
  unfold nmF
  rw [List.getElem?_map, List.getElem?_map]
  by_cases hj : j < 16
  · obtain ⟨x, hx⟩ : ∃ x, a[j]? = some x := ⟨_, List.getElem?_eq_getElem (by omega)⟩
    obtain ⟨y, hy⟩ : ∃ y, b[j]? = some y := ⟨_, List.getElem?_eq_getElem (by omega)⟩
    rw [hx, hy]
    show some (nmC x) = some (nmC y)
    rw [h j x y hj hx hy]
  · rw [List.getElem?_eq_none (by omega), List.getElem?_eq_none (by omega)]
theorem same_not {a b : List Cl} {i : Nat} {x y : Cl} (hx : a[i]? = some x) (hy : b[i]? = some y) (he : nmC x ≠ nmC y) : nmF a ≠ nmF b := fun h => by
  have := congrArg (·[i]?) h
  unfold nmF at this
  simp only [List.getElem?_map, hx, hy, Option.map_some] at this
  injection this with this
  exact he this
end Go.V
namespace Go.Proofs.Ytfjgfaccfjdklaa
open Go.RowKit Go.V
theorem sizeCl : (Try.prog.info? 30).map (·.size) = some 2 := by kernel_rfl
theorem sizeCs : (Try.prog.info? 31).map (·.size) = some 32 := by kernel_rfl
end Go.Proofs.Ytfjgfaccfjdklaa
