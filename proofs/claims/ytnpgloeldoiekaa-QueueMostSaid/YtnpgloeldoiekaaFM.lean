/- FM: opening arguments that are lists of a queue's acts (layer 16). -/
import Derived.Test.YtnpgloeldoiekaaFR
import Derived.Test.YtnpgloeldoiekaaF8
import Derived.Test.YtnpgloeldoiekaaB3
namespace Go.Proofs.Ytnpgloeldoiekaa
open Go.ChangeShapes Go.WideShapes Go.ChangeAt Go.RowKit Go.Joins Go.Deep Go.V
/-- what is said of the types of an act -/
structure AqTy (P : Program) (t : TypeId) : Prop where
  it : ∃ f0 f1 f2 : Field, ∃ er : TypeId, P.underlying t = some (.struct #[f0, f1, f2]) ∧ [f0.offset, f1.offset, f2.offset] = [0, 1, 8] ∧ [P.cellsOf t, P.cellsOf f0.type, P.cellsOf f1.type, P.cellsOf f2.type] = [38, 1, 7, 30] ∧
    P.underlying f0.type = some (.int .i64) ∧ RqTy P f1.type ∧ P.underlying f2.type = some (.array 6 er) ∧ RpTy P er
theorem AqTy.cells {P : Program} {t : TypeId} (hT : AqTy P t) : P.cellsOf t = 38 := by
  obtain ⟨_, _, _, _, _, _, hcl, _⟩ := hT.it
  simp only [List.cons.injEq, and_true] at hcl
  exact hcl.1
theorem open_aqc {H : Type} {enc : TypeId × Value → H} {P : Program} {W : World} {t : TypeId} (hT : AqTy P t) {fuel : Nat} {cs : List Value} {x : DataW H × List MemPlace} (h : DataW.trod enc P W 0 (fun _ => true) true fuel t cs = some x) : ∃ (y : Aq) (u : Value), cs = y.l u ∧ Rd W (fun _ => True) u (bys y.r.g) ∧ AqIn y := by
  obtain ⟨f0, f1, f2, er, ht, hof, hcl, h0, h1, h2, her⟩ := hT.it
  obtain ⟨xs, n, _, _, hl, hlen, hf⟩ := DataW.trod_struct ht h
  simp only [List.cons.injEq, and_true] at hof hcl
  obtain ⟨o0, o1, o2⟩ := hof
  obtain ⟨k, k0, k1, k2⟩ := hcl
  have hxl : xs.length = 3 := hlen
  match xs, hxl with
  | [y0, y1, y2], _ =>
    have r0 := hf 0 f0 rfl
    have r1 := hf 1 f1 rfl
    have r2 := hf 2 f2 rfl
    rw [k] at hl
    rw [o0, k0] at r0
    rw [o1, k1] at r1
    rw [o2, k2] at r2
    obtain ⟨K, e0, _, w0⟩ := DataW.trod_int h0 r0
    obtain ⟨r, u, e1, hu, hr⟩ := open_rqc h1 r1
    obtain ⟨a, e2, ha, hai⟩ := open_lastc h2 her k2 r2
    refine ⟨⟨K, r, a, ha⟩, u, ?_, hu, ⟨hr, hai⟩⟩
    have hsp : cs = cs.take 1 ++ ((cs.drop 1).take 7 ++ (cs.drop 8).take 30) := by
      have s1 := (List.take_append_drop 1 cs).symm
      have s2 := (List.take_append_drop 7 (cs.drop 1)).symm
      rw [List.drop_drop] at s2
      rw [List.take_of_length_le (show (cs.drop 8).length ≤ 30 by rw [List.length_drop]; omega), ← s2]
      exact s1
    rw [List.drop_zero] at e0
    rw [hsp, e0, e1, e2]
    rfl
/-- an argument that is a list of acts -/
theorem open_aqs {H : Type} {enc : TypeId × Value → H} {P : Program} {W : World} {base : Nat} {t e : TypeId} (ht : P.underlying t = some (.slice e)) (hT : AqTy P e) {v : Value} {d : DataW H} {p : List MemPlace} (hv : Value.okWide P W .any base t v) (h : DataW.Trod enc P W 0 (fun _ => true) true t v d p) :
    ∃ l : List Aq, Rd W (fun _ => True) v (wds aqD l) ∧ ∀ x ∈ l, AqIn x :=
  open_wds aqD ht hT.cells AqIn ⟨0, ⟨0, 0, 0, 0, 0, 0, []⟩, List.replicate 6 ⟨0, 0, 0, false, 0⟩, rfl⟩ (fun _ _ _ h => by
    obtain ⟨y, u, rfl, h1, h2⟩ := open_aqc hT h
    exact ⟨y, aq_mk h1, h2⟩) hv h
theorem aqTy : AqTy Try.prog 39 := ⟨⟨_, _, _, _, Try.underlying39, by kernel_rfl, by kernel_rfl, Try.underlying3, rqTy, Try.underlying37, rpTy⟩⟩
end Go.Proofs.Ytnpgloeldoiekaa
