/- FA: opening arguments that are acts, lists of acts, plans (layer 10). -/
import Derived.Test.YtijhicfegbaadaaDoorD8
import Derived.Test.YtijhicfegbaadaaDoorF
import Derived.Lib.SmallJoins
import Derived.Deep.Slices
namespace Go.V
open Go.ChangeShapes Go.WideShapes Go.ChangeAt Go.RowKit Go.Joins Go.Deep
/-- what is said of the types of a plan -/
structure PlTy (P : Program) (t : TypeId) : Prop where
  it : ∃ f0 f1 f2 : Field, P.underlying t = some (.struct #[f0, f1, f2]) ∧ [f0.offset, f1.offset, f2.offset] = [0, 1, 2] ∧ [P.cellsOf t, P.cellsOf f0.type, P.cellsOf f1.type, P.cellsOf f2.type] = [3, 1, 1, 1] ∧
    P.underlying f0.type = some (.int .u64) ∧ P.underlying f1.type = some (.int .i64) ∧ P.underlying f2.type = some (.int .i64)
def i64r (x : Int) : Prop := -9223372036854775808 ≤ x ∧ x ≤ 9223372036854775807
theorem open_plc {H : Type} {enc : TypeId × Value → H} {P : Program} {W : World} {t : TypeId} (hT : PlTy P t) {fuel : Nat} {cs : List Value} {x : DataW H × List MemPlace} (h : DataW.trod enc P W 0 (fun _ => true) true fuel t cs = some x) :
    ∃ (keep : Nat) (torn cut : Int), cs = [.int .u64 (keep : Int), .int .i64 torn, .int .i64 cut] ∧ keep < 18446744073709551616 ∧ i64r torn ∧ i64r cut := by
  obtain ⟨f0, f1, f2, ht, hof, hcl, h0, h1, h2⟩ := hT.it
  obtain ⟨xs, n, _, _, hl, hlen, hf⟩ := DataW.trod_struct ht h
  simp only [List.cons.injEq, and_true] at hof hcl
  obtain ⟨o0, o1, o2⟩ := hof
  obtain ⟨k, k0, k1, k2⟩ := hcl
  have r0 := hf 0 f0 rfl
  have r1 := hf 1 f1 rfl
  have r2 := hf 2 f2 rfl
  rw [k] at hl
  rw [o0, k0] at r0
  rw [o1, k1] at r1
  rw [o2, k2] at r2
  have hxl : xs.length = 3 := hlen
  match xs, hxl with
  | [y0, y1, y2], _ =>
    match cs, hl with
    | [c0, c1, c2], _ =>
      obtain ⟨K, e0, _, w0⟩ := DataW.trod_int h0 r0
      obtain ⟨T, e1, _, w1⟩ := DataW.trod_int h1 r1
      obtain ⟨C, e2, _, w2⟩ := DataW.trod_int h2 r2
      simp only [List.drop_zero, List.drop_succ_cons, List.take_succ_cons, List.take_zero, List.cons.injEq, and_true] at e0 e1 e2
      obtain ⟨m, rfl, hm⟩ := u64_of_wf w0
      subst e0 e1 e2
      exact ⟨m, T, C, rfl, hm, i64_of_wf w1, i64_of_wf w2⟩
/-- an argument that is a plan -/
theorem open_plan {H : Type} {enc : TypeId × Value → H} {P : Program} {W : World} {base : Nat} {t : TypeId} (hT : PlTy P t) {v : Value} {d : DataW H} {p : List MemPlace} (hv : Value.okWide P W .any base t v) (h : DataW.Trod enc P W 0 (fun _ => true) true t v d p) :
    ∃ (keep : Nat) (torn cut : Int), v = .agg #[.int .u64 (keep : Int), .int .i64 torn, .int .i64 cut] ∧ keep < 18446744073709551616 ∧ i64r torn ∧ i64r cut := by
  obtain ⟨f0, f1, f2, ht, _⟩ := hT.it
  obtain ⟨cs, rfl, _⟩ := okWide_struct ht hv
  obtain ⟨fuel, hf⟩ := h
  obtain ⟨keep, torn, cut, hc, h1, h2, h3⟩ := open_plc hT hf
  obtain ⟨cs⟩ := cs
  have hc : cs = _ := hc
  subst hc
  exact ⟨keep, torn, cut, rfl, h1, h2, h3⟩
/-- what is said of the types of an act -/
structure AcTy (P : Program) (t : TypeId) : Prop where
  it : ∃ f0 f1 f2 f3 f4 f5 : Field, ∃ b : TypeId, P.underlying t = some (.struct #[f0, f1, f2, f3, f4, f5]) ∧ [f0.offset, f1.offset, f2.offset, f3.offset, f4.offset, f5.offset] = [0, 1, 2, 3, 4, 7] ∧
    [P.cellsOf t, P.cellsOf f0.type, P.cellsOf f1.type, P.cellsOf f2.type, P.cellsOf f3.type, P.cellsOf f4.type, P.cellsOf f5.type] = [8, 1, 1, 1, 1, 3, 1] ∧
    P.underlying f0.type = some (.int .i64) ∧ P.underlying f1.type = some .string ∧ P.underlying f2.type = some .string ∧ P.underlying f3.type = some (.slice b) ∧ PlTy P f4.type ∧ P.underlying f5.type = some (.int .i64) ∧ P.underlying b = some (.int .u8) ∧ P.cellsOf b = 1
/-- what an act that came in keeps to -/
structure AcIn (a : Ac) : Prop where
  k : i64r a.k
  n : a.n.size ≤ maxLen
  t : a.t.size ≤ maxLen
  keep : a.keep < 18446744073709551616
  torn : i64r a.torn
  cut : i64r a.cut
  m : i64r a.m
theorem open_acc {H : Type} {enc : TypeId × Value → H} {P : Program} {W : World} {t : TypeId} (hT : AcTy P t) {fuel : Nat} {cs : List Value} {x : DataW H × List MemPlace} (h : DataW.trod enc P W 0 (fun _ => true) true fuel t cs = some x) :
    ∃ (a : Ac) (u : Value), cs = a.l u ∧ Rd W (fun _ => True) u (bys a.b) ∧ AcIn a := by
  obtain ⟨f0, f1, f2, f3, f4, f5, b, ht, hof, hcl, h0, h1, h2, h3, h4, h5, hb, hcb⟩ := hT.it
  obtain ⟨xs, n, _, _, hl, hlen, hf⟩ := DataW.trod_struct ht h
  simp only [List.cons.injEq, and_true] at hof hcl
  obtain ⟨o0, o1, o2, o3, o4, o5⟩ := hof
  obtain ⟨k, k0, k1, k2, k3, k4, k5⟩ := hcl
  have r0 := hf 0 f0 rfl
  have r1 := hf 1 f1 rfl
  have r2 := hf 2 f2 rfl
  have r3 := hf 3 f3 rfl
  have r4 := hf 4 f4 rfl
  have r5 := hf 5 f5 rfl
  rw [k] at hl
  rw [o0, k0] at r0
  rw [o1, k1] at r1
  rw [o2, k2] at r2
  rw [o3, k3] at r3
  rw [o4, k4] at r4
  rw [o5, k5] at r5
  have hxl : xs.length = 6 := hlen
  match xs, hxl with
  | [y0, y1, y2, y3, y4, y5], _ =>
    match cs, hl with
    | [c0, c1, c2, c3, c4, c5, c6, c7], _ =>
      obtain ⟨K, e0, _, w0⟩ := DataW.trod_int h0 r0
      obtain ⟨S, e1, _, w1⟩ := DataW.trod_string h1 r1
      obtain ⟨T, e2, _, w2⟩ := DataW.trod_string h2 r2
      obtain ⟨keep, torn, cut, e4, w4, w5, w6⟩ := open_plc h4 r4
      obtain ⟨N, e5, _, w7⟩ := DataW.trod_int h5 r5
      simp only [List.drop_zero, List.drop_succ_cons, List.take_succ_cons, List.take_zero, List.cons.injEq, and_true] at e0 e1 e2 e4 e5
      obtain ⟨e41, e42, e43⟩ := e4
      obtain ⟨bs, hR⟩ := open_bysc h3 hb hcb (v := c3) r3
      subst e0 e1 e2 e41 e42 e43 e5
      exact ⟨⟨K, S, T, bs, keep, torn, cut, N⟩, c3, rfl, hR, ⟨i64_of_wf w0, w1, w2, w4, w5, w6, i64_of_wf w7⟩⟩
/-- an argument that is an act -/
theorem open_act {H : Type} {enc : TypeId × Value → H} {P : Program} {W : World} {base : Nat} {t : TypeId} (hT : AcTy P t) {v : Value} {d : DataW H} {p : List MemPlace} (hv : Value.okWide P W .any base t v) (h : DataW.Trod enc P W 0 (fun _ => true) true t v d p) :
    ∃ (a : Ac) (u : Value), v = .agg (a.l u).toArray ∧ Rd W (fun _ => True) u (bys a.b) ∧ AcIn a := by
  obtain ⟨f0, f1, f2, f3, f4, f5, b, ht, _⟩ := hT.it
  obtain ⟨cs, rfl, _⟩ := okWide_struct ht hv
  obtain ⟨fuel, hf⟩ := h
  obtain ⟨a, u, hc, h1, h2⟩ := open_acc hT hf
  obtain ⟨cs⟩ := cs
  have hc : cs = a.l u := hc
  subst hc
  exact ⟨a, u, rfl, h1, h2⟩
theorem AcTy.cells {P : Program} {t : TypeId} (hT : AcTy P t) : P.cellsOf t = 8 := by
  obtain ⟨f0, f1, f2, f3, f4, f5, b, ht, hof, hcl, _⟩ := hT.it
  simp only [List.cons.injEq, and_true] at hcl
  exact hcl.1
/-- an argument that is a list of acts -/
theorem open_acts {H : Type} {enc : TypeId × Value → H} {P : Program} {W : World} {base : Nat} {t e : TypeId} (ht : P.underlying t = some (.slice e)) (hT : AcTy P e) {v : Value} {d : DataW H} {p : List MemPlace} (hv : Value.okWide P W .any base t v) (h : DataW.Trod enc P W 0 (fun _ => true) true t v d p) :
    ∃ l : List Ac, Rd W (fun _ => True) v (wds acD l) ∧ ∀ a ∈ l, AcIn a := by
  obtain ⟨a, len, cap, rfl⟩ := okWide_slice ht hv
  obtain ⟨fuel, hf⟩ := h
  rcases open_slice ht hf with ⟨hcs, _⟩ | ⟨x, len', cap', m, n, D, Pl, hcs, _, hl, hm, hmm, _, hi⟩
  · simp [Value.cells] at hcs
    obtain ⟨rfl, rfl, rfl⟩ := hcs
    exact ⟨[], wds_nil, fun r h => by simp at h⟩
  · simp [Value.cells] at hcs
    obtain ⟨rfl, rfl, rfl⟩ := hcs
    simp at hmm
    subst hmm
    have hall : ∀ i, ∃ r : Ac, i < len → ∃ u, (∀ j, j < 8 → W.cell? ((x.add (i * 8)).add j) = (r.l u)[j]?) ∧ Rd W (fun _ => True) u (bys r.b) ∧ AcIn r := fun i => by
      by_cases hlt : i < len
      · obtain ⟨cs', hc, hd⟩ := hi i (by omega)
        rw [hT.cells] at hc
        obtain ⟨_, _, hat⟩ := World.cells?_some hc
        obtain ⟨r, u, rfl, h1, h2⟩ := open_acc hT hd
        exact ⟨r, fun _ => ⟨u, hat, h1, h2⟩⟩
      · exact ⟨⟨0, ByteArray.empty, ByteArray.empty, [], 0, 0, 0, 0⟩, fun h => absurd h hlt⟩
    obtain ⟨f, hf⟩ := Classical.skolem.1 hall
    refine ⟨(List.range len).map f, ?_, fun r hr => ?_⟩
    · unfold wds Rd
      have hll : ((List.range len).map f).length = len := by simp
      refine ⟨some x, m, by rw [hll], by rw [hll]; exact hl, hm, fun h => by rw [List.eq_nil_of_length_eq_zero h]; rfl, fun hne => ?_⟩
      have hpos : 0 < len := by
        rcases Nat.eq_zero_or_pos len with h0 | h0
        · subst h0; exact absurd (by simp) hne
        · exact h0
      have hx0 : x.spot = none := by
        obtain ⟨u, hc, _⟩ := hf 0 hpos
        have := spot_none ((hc 0 (by omega)).trans (by rfl : ((f 0).l u)[0]? = some (.int .i64 (f 0).k)))
        simpa [Addr.add] using this
      obtain ⟨g, off, sp⟩ := x
      simp only at hx0
      subst hx0
      refine ⟨g, off, rfl, trivial, wdC_of acD _ off (fun i r hr => ?_)⟩
      have hil : i < len := by have := (List.getElem?_eq_some_iff.1 hr).1; simpa using this
      have hfi : r = f i := by
        rw [List.getElem?_map, List.getElem?_range hil] at hr
        simpa using hr.symm
      subst hfi
      obtain ⟨u, hc, hu, _⟩ := hf i hil
      have hm := ac_mk hu
      refine wdC_in _ ((f i).l u) _ (by rw [acD.len]; rfl) (fun j w hw => ?_) hm.at_
      have hj : j < 8 := (List.getElem?_eq_some_iff.1 hw).1
      have := hc j hj
      rw [add_mk, add_mk] at this
      rw [this]
      exact hw
    · obtain ⟨i, hi', rfl⟩ := List.mem_map.1 hr
      obtain ⟨_, _, _, h2⟩ := hf i (by simpa using hi')
      exact h2
end Go.V
namespace Go.Proofs.YtijhicfegbaadaaDoor
open Go.RowKit Go.V
theorem plTy : PlTy Tryd.prog 45 := ⟨⟨_, _, _, Tryd.underlying45, by kernel_rfl, by kernel_rfl, Tryd.underlying43, Tryd.underlying3, Tryd.underlying3⟩⟩
theorem acTy : AcTy Tryd.prog 47 := ⟨⟨_, _, _, _, _, _, _, Tryd.underlying47, by kernel_rfl, by kernel_rfl, Tryd.underlying3, Tryd.underlying9, Tryd.underlying9, Tryd.underlying22, plTy, Tryd.underlying3, Tryd.underlying5, by kernel_rfl⟩⟩
end Go.Proofs.YtijhicfegbaadaaDoor
