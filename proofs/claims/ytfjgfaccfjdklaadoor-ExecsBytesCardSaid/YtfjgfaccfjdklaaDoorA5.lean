/- A5: layer 15: lists of batches; the laws' long. -/
import Derived.Test.YtfjgfaccfjdklaaDoorA4
namespace Go.Proofs.YtfjgfaccfjdklaaDoor
open Go.RowKit Go.V
/-- a list of batches -/
def bts (l : List (List Rq)) : Dat := .sl l.length (l.map rqs)
def longB (l : List (List Rq)) : Bool := decide (30 < l.length ∨ ∃ x ∈ l, 10 < x.length)
theorem bts_el {w : World} {F : Nat → Prop} {A : Option Addr} {c : Nat} {l : List (List Rq)} (h : Rd w F (.slice A l.length c) (bts l)) {i : Nat} {x : List Rq} (hx : l[i]? = some x) :
    ∃ g off G cp, A = some ⟨g, off, none⟩ ∧ w.cell? ⟨g, off + i, none⟩ = some (.slice G x.length cp) ∧ Rd w F (.slice G x.length cp) (rqs x) := by
  obtain ⟨g, off, u, hA, _, hc, hr⟩ := h.elem i (rqs x) (by rw [List.getElem?_map, hx]; rfl)
  obtain ⟨G, cp, rfl⟩ := rqs_shape hr
  exact ⟨g, off, G, cp, hA, hc, hr⟩
theorem bts_shape {w : World} {F : Nat → Prop} {v : Value} {l : List (List Rq)} (h : Rd w F v (bts l)) : ∃ A c, v = .slice A l.length c := by
  obtain ⟨A, c, hv, _, _⟩ := Rd.slShape h
  exact ⟨A, c, hv⟩
end Go.Proofs.YtfjgfaccfjdklaaDoor
