/- FB: opening an argument that is a list of a log's acts (layer 11), or a string. -/
import Derived.Test.YtijhicfegbaadaaDoorFA
import Derived.Test.YtijhicfegbaadaaDoorG0
import Derived.ChangeMaps5
namespace Go.V
open Go.ChangeShapes Go.WideShapes Go.ChangeAt Go.RowKit Go.Joins Go.Deep
/-- what is said of the types of a log's act -/
structure LcTy (P : Program) (t : TypeId) : Prop where
  it : ∃ f0 f1 f2 f3 : Field, ∃ b : TypeId, P.underlying t = some (.struct #[f0, f1, f2, f3]) ∧ [f0.offset, f1.offset, f2.offset, f3.offset] = [0, 1, 2, 3] ∧
    [P.cellsOf t, P.cellsOf f0.type, P.cellsOf f1.type, P.cellsOf f2.type, P.cellsOf f3.type] = [6, 1, 1, 1, 3] ∧
    P.underlying f0.type = some (.int .i64) ∧ P.underlying f1.type = some (.int .i64) ∧ P.underlying f2.type = some (.slice b) ∧ PlTy P f3.type ∧ P.underlying b = some (.int .u8) ∧ P.cellsOf b = 1
theorem open_lcc {H : Type} {enc : TypeId × Value → H} {P : Program} {W : World} {t : TypeId} (hT : LcTy P t) {fuel : Nat} {cs : List Value} {x : DataW H × List MemPlace} (h : DataW.trod enc P W 0 (fun _ => true) true fuel t cs = some x) :
    ∃ (a : Lc) (u : Value), cs = a.l u ∧ Rd W (fun _ => True) u (bys a.b) := by
  obtain ⟨f0, f1, f2, f3, b, ht, hof, hcl, h0, h1, h2, h3, hb, hcb⟩ := hT.it
  obtain ⟨xs, n, _, _, hl, hlen, hf⟩ := DataW.trod_struct ht h
  simp only [List.cons.injEq, and_true] at hof hcl
  obtain ⟨o0, o1, o2, o3⟩ := hof
  obtain ⟨k, k0, k1, k2, k3⟩ := hcl
  have r0 := hf 0 f0 rfl
  have r1 := hf 1 f1 rfl
  have r2 := hf 2 f2 rfl
  have r3 := hf 3 f3 rfl
  rw [k] at hl
  rw [o0, k0] at r0
  rw [o1, k1] at r1
  rw [o2, k2] at r2
  rw [o3, k3] at r3
  have hxl : xs.length = 4 := hlen
  match xs, hxl with
  | [y0, y1, y2, y3], _ =>
    match cs, hl with
    | [c0, c1, c2, c3, c4, c5], _ =>
      obtain ⟨K, e0, _, _⟩ := DataW.trod_int h0 r0
      obtain ⟨N, e1, _, _⟩ := DataW.trod_int h1 r1
      obtain ⟨keep, torn, cut, e3, _, _, _⟩ := open_plc h3 r3
      simp only [List.drop_zero, List.drop_succ_cons, List.take_succ_cons, List.take_zero, List.cons.injEq, and_true] at e0 e1 e3
      obtain ⟨e31, e32, e33⟩ := e3
      obtain ⟨bs, hR⟩ := open_bysc h2 hb hcb (v := c2) r2
      subst e0 e1 e31 e32 e33
      exact ⟨⟨K, N, bs, keep, torn, cut⟩, c2, rfl, hR⟩
theorem LcTy.cells {P : Program} {t : TypeId} (hT : LcTy P t) : P.cellsOf t = 6 := by
  obtain ⟨f0, f1, f2, f3, b, ht, hof, hcl, _⟩ := hT.it
  simp only [List.cons.injEq, and_true] at hcl
  exact hcl.1
/-- an argument that is a list of a log's acts -/
theorem open_lcs {H : Type} {enc : TypeId × Value → H} {P : Program} {W : World} {base : Nat} {t e : TypeId} (ht : P.underlying t = some (.slice e)) (hT : LcTy P e) {v : Value} {d : DataW H} {p : List MemPlace} (hv : Value.okWide P W .any base t v) (h : DataW.Trod enc P W 0 (fun _ => true) true t v d p) :
    ∃ l : List Lc, Rd W (fun _ => True) v (wds lcD l) := by
  obtain ⟨a, len, cap, rfl⟩ := okWide_slice ht hv
  obtain ⟨fuel, hf⟩ := h
  rcases open_slice ht hf with ⟨hcs, _⟩ | ⟨x, len', cap', m, n, D, Pl, hcs, _, hl, hm, hmm, _, hi⟩
  · simp [Value.cells] at hcs
    obtain ⟨rfl, rfl, rfl⟩ := hcs
    exact ⟨[], wds_nil⟩
  · simp [Value.cells] at hcs
    obtain ⟨rfl, rfl, rfl⟩ := hcs
    simp at hmm
    subst hmm
    have hall : ∀ i, ∃ r : Lc, i < len → ∃ u, (∀ j, j < 6 → W.cell? ((x.add (i * 6)).add j) = (r.l u)[j]?) ∧ Rd W (fun _ => True) u (bys r.b) := fun i => by
      by_cases hlt : i < len
      · obtain ⟨cs', hc, hd⟩ := hi i (by omega)
        rw [hT.cells] at hc
        obtain ⟨_, _, hat⟩ := World.cells?_some hc
        obtain ⟨r, u, rfl, h1⟩ := open_lcc hT hd
        exact ⟨r, fun _ => ⟨u, hat, h1⟩⟩
      · exact ⟨⟨0, 0, [], 0, 0, 0⟩, fun h => absurd h hlt⟩
    obtain ⟨f, hf⟩ := Classical.skolem.1 hall
    refine ⟨(List.range len).map f, ?_⟩
    unfold wds Rd
    have hll : ((List.range len).map f).length = len := by simp
    refine ⟨some x, m, by rw [hll], by rw [hll]; exact hl, hm, fun h => by rw [List.eq_nil_of_length_eq_zero h]; rfl, fun hne => ?_⟩
    have hpos : 0 < len := by
      rcases Nat.eq_zero_or_pos len with h0 | h0
      · subst h0; exact absurd (by simp) hne
      · exact h0
    have hx0 : x.spot = none := by
      obtain ⟨u, hc, _⟩ := hf 0 hpos
      have := spot_none ((hc 0 (by omega)).trans (by rfl : ((f 0).l u)[0]? = some (.int .i64 (f 0).k)))
      simpa [Addr.add] using this
    obtain ⟨g, off, sp⟩ := x
    simp only at hx0
    subst hx0
    refine ⟨g, off, rfl, trivial, wdC_of lcD _ off (fun i r hr => ?_)⟩
    have hil : i < len := by have := (List.getElem?_eq_some_iff.1 hr).1; simpa using this
    have hfi : r = f i := by
      rw [List.getElem?_map, List.getElem?_range hil] at hr
      simpa using hr.symm
    subst hfi
    obtain ⟨u, hc, hu⟩ := hf i hil
    have hm := lc_mk hu
    refine wdC_in _ ((f i).l u) _ (by rw [lcD.len]; rfl) (fun j w hw => ?_) hm.at_
    have hj : j < 6 := (List.getElem?_eq_some_iff.1 hw).1
    have := hc j hj
    rw [add_mk, add_mk] at this
    rw [this]
    exact hw
/-- an argument that is a string -/
theorem open_txt {H : Type} {enc : TypeId × Value → H} {P : Program} {W : World} {base : Nat} {t : TypeId} (ht : P.underlying t = some .string) {v : Value} {d : DataW H} {p : List MemPlace} (hv : Value.okWide P W .any base t v) (h : DataW.Trod enc P W 0 (fun _ => true) true t v d p) :
    ∃ s : ByteArray, v = .string s ∧ s.size ≤ maxLen := by
  obtain ⟨s, e, _, _, hs⟩ := Go.ChangeMaps.open_string ht hv h
  exact ⟨s, e, hs⟩
end Go.V
namespace Go.Proofs.YtijhicfegbaadaaDoor
open Go.RowKit Go.V
end Go.Proofs.YtijhicfegbaadaaDoor
