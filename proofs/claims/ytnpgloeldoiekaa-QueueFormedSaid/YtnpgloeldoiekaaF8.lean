/- F8: opening an argument that is a list of requests. No project text. -/
import Derived.Test.YtnpgloeldoiekaaF7
import Derived.Test.YtnpgloeldoiekaaQA
namespace Go.V
open Go.ChangeShapes Go.WideShapes Go.ChangeAt Go.RowKit Go.Joins Go.Deep
theorem RqTy.cells {P : Program} {t : TypeId} (hT : RqTy P t) : P.cellsOf t = 7 := by
  obtain ⟨f0, f1, f2, f3, e0, e1, e2, e3, b, ht, hof, hcl, _⟩ := hT.it
  simp only [List.cons.injEq, and_true] at hcl
  exact hcl.1
/-- an argument that is a list of requests -/
theorem open_reqs {H : Type} {enc : TypeId × Value → H} {P : Program} {W : World} {base : Nat} {t e : TypeId} (ht : P.underlying t = some (.slice e)) (hT : RqTy P e) {v : Value} {d : DataW H} {p : List MemPlace} (hv : Value.okWide P W .any base t v) (h : DataW.Trod enc P W 0 (fun _ => true) true t v d p) :
    ∃ l : List Rq, Rd W (fun _ => True) v (rqs l) ∧ ∀ r ∈ l, in64 r.a ∧ in64 r.b := by
  obtain ⟨a, len, cap, rfl⟩ := okWide_slice ht hv
  obtain ⟨fuel, hf⟩ := h
  rcases open_slice ht hf with ⟨hcs, _⟩ | ⟨x, len', cap', m, n, D, Pl, hcs, _, hl, hm, hmm, _, hi⟩
  · simp [Value.cells] at hcs
    obtain ⟨rfl, rfl, rfl⟩ := hcs
    refine ⟨[], ?_, fun r h => by simp at h⟩
    unfold rqs Rd
    exact ⟨none, 0, rfl, Nat.le_refl _, by simp [maxLen], fun _ => rfl, fun h => absurd rfl h⟩
  · simp [Value.cells] at hcs
    obtain ⟨rfl, rfl, rfl⟩ := hcs
    simp at hmm
    subst hmm
    have hall : ∀ i, ∃ r : Rq, i < len → ∃ u, (∀ j, j < 7 → W.cell? ((x.add (i * 7)).add j) = (r.l u)[j]?) ∧ Rd W (fun _ => True) u (bys r.g) ∧ in64 r.a ∧ in64 r.b := fun i => by
      by_cases hlt : i < len
      · obtain ⟨cs', hc, hd⟩ := hi i (by omega)
        rw [hT.cells] at hc
        obtain ⟨_, _, hat⟩ := World.cells?_some hc
        obtain ⟨r, u, rfl, h1, h2, h3⟩ := open_rqc hT hd
        exact ⟨r, fun _ => ⟨u, hat, h1, h2, h3⟩⟩
      · exact ⟨⟨0, 0, 0, 0, 0, 0, []⟩, fun h => absurd h hlt⟩
    obtain ⟨f, hf⟩ := Classical.skolem.1 hall
    refine ⟨(List.range len).map f, ?_, fun r hr => ?_⟩
    · unfold rqs Rd
      have hll : ((List.range len).map f).length = len := by simp
      refine ⟨some x, m, by rw [hll], by rw [hll]; exact hl, hm, fun h => by rw [List.eq_nil_of_length_eq_zero h]; rfl, fun hne => ?_⟩
      have hpos : 0 < len := by
        rcases Nat.eq_zero_or_pos len with h0 | h0
        · subst h0; exact absurd (by simp) hne
        · exact h0
      have hx0 : x.spot = none := by
        obtain ⟨u, hc, _⟩ := hf 0 hpos
        have := spot_none ((hc 0 (by omega)).trans (by rfl : ((f 0).l u)[0]? = some (.int .i64 (f 0).c)))
        simpa [Addr.add] using this
      obtain ⟨g, off, sp⟩ := x
      simp only at hx0
      subst hx0
      refine ⟨g, off, rfl, trivial, rdC_of _ off (fun i r hr => rdC_rq.2 ?_)⟩
      have hil : i < len := by have := (List.getElem?_eq_some_iff.1 hr).1; simpa using this
      have hfi : r = f i := by
        rw [List.getElem?_map, List.getElem?_range hil] at hr
        simpa using hr.symm
      subst hfi
      obtain ⟨u, hc, hu, _⟩ := hf i hil
      refine ⟨u, fun j w hw => ?_, hu⟩
      have hj : j < 7 := (List.getElem?_eq_some_iff.1 hw).1
      have := hc j hj
      rw [add_mk, add_mk] at this
      rw [this]
      exact hw
    · obtain ⟨i, hi', rfl⟩ := List.mem_map.1 hr
      obtain ⟨_, _, _, h2, h3⟩ := hf i (by simpa using hi')
      exact ⟨h2, h3⟩
end Go.V
