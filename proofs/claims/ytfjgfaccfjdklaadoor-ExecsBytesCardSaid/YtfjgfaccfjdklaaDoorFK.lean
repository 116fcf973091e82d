/- FK: opening arguments that are the service's values, ops, lists of ops (layer 14). -/
import Derived.Test.YtfjgfaccfjdklaaDoorU4
import Derived.Test.YtfjgfaccfjdklaaDoorF
import Derived.Lib.SmallJoins
import Derived.Deep.Slices
import Derived.ChangeSame
namespace Go.V
open Go.ChangeShapes Go.WideShapes Go.ChangeAt Go.RowKit Go.Joins Go.Deep
structure OkTy (P : Program) (t : TypeId) : Prop where
  it : ∃ f0 f1 f2 f3 : Field, P.underlying t = some (.struct #[f0, f1, f2, f3]) ∧ [f0.offset, f1.offset, f2.offset, f3.offset] = [0, 1, 2, 3] ∧ [P.cellsOf t, P.cellsOf f0.type, P.cellsOf f1.type, P.cellsOf f2.type, P.cellsOf f3.type] = [4, 1, 1, 1, 1] ∧
    P.underlying f0.type = some (.int .i64) ∧ P.underlying f1.type = some (.int .i64) ∧ P.underlying f2.type = some (.int .i64) ∧ P.underlying f3.type = some (.int .i64)
structure ClTy (P : Program) (t : TypeId) : Prop where
  it : ∃ f0 f1 : Field, P.underlying t = some (.struct #[f0, f1]) ∧ [f0.offset, f1.offset] = [0, 1] ∧ [P.cellsOf t, P.cellsOf f0.type, P.cellsOf f1.type] = [2, 1, 1] ∧ P.underlying f0.type = some .bool ∧ P.underlying f1.type = some (.int .i64)
theorem OkTy.cells {P : Program} {t : TypeId} (hT : OkTy P t) : P.cellsOf t = 4 := by
  obtain ⟨f0, f1, f2, f3, _, _, hcl, _⟩ := hT.it
  simp only [List.cons.injEq, and_true] at hcl
  exact hcl.1
theorem open_okc {H : Type} {enc : TypeId × Value → H} {P : Program} {W : World} {t : TypeId} (hT : OkTy P t) {fuel : Nat} {cs : List Value} {x : DataW H × List MemPlace} (h : DataW.trod enc P W 0 (fun _ => true) true fuel t cs = some x) : ∃ o : Ok, cs = o.l ∧ OkIn o := by
  obtain ⟨f0, f1, f2, f3, ht, hof, hcl, h0, h1, h2, h3⟩ := hT.it
  obtain ⟨y0, y1, y2, y3, n, _, hl, r0, r1, r2, r3⟩ := trod_struct4 ht h
  simp only [List.cons.injEq, and_true] at hof hcl
  obtain ⟨o0, o1, o2, o3⟩ := hof
  obtain ⟨k, k0, k1, k2, k3⟩ := hcl
  rw [k] at hl
  rw [o0, k0] at r0
  rw [o1, k1] at r1
  rw [o2, k2] at r2
  rw [o3, k3] at r3
  match cs, hl with
  | [c0, c1, c2, c3], _ =>
    obtain ⟨K, e0, _, w0⟩ := DataW.trod_int h0 r0
    obtain ⟨Y, e1, _, w1⟩ := DataW.trod_int h1 r1
    obtain ⟨A, e2, _, w2⟩ := DataW.trod_int h2 r2
    obtain ⟨B, e3, _, w3⟩ := DataW.trod_int h3 r3
    simp only [List.drop_zero, List.drop_succ_cons, List.take_succ_cons, List.take_zero, List.cons.injEq, and_true] at e0 e1 e2 e3
    subst e0 e1 e2 e3
    exact ⟨⟨K, Y, A, B⟩, rfl, ⟨i64_of_wf w0, i64_of_wf w1, i64_of_wf w2, i64_of_wf w3⟩⟩
theorem open_clc {H : Type} {enc : TypeId × Value → H} {P : Program} {W : World} {t : TypeId} (hT : ClTy P t) {fuel : Nat} {cs : List Value} {x : DataW H × List MemPlace} (h : DataW.trod enc P W 0 (fun _ => true) true fuel t cs = some x) : ∃ c : Cl, cs = c.l ∧ i64s c.n := by
  obtain ⟨f0, f1, ht, hof, hcl, h0, h1⟩ := hT.it
  obtain ⟨y0, y1, n, _, hl, r0, r1⟩ := trod_struct2 ht h
  simp only [List.cons.injEq, and_true] at hof hcl
  obtain ⟨o0, o1⟩ := hof
  obtain ⟨k, k0, k1⟩ := hcl
  rw [k] at hl
  rw [o0, k0] at r0
  rw [o1, k1] at r1
  match cs, hl with
  | [c0, c1], _ =>
    obtain ⟨T, e0, _⟩ := DataW.trod_bool h0 r0
    obtain ⟨N, e1, _, w1⟩ := DataW.trod_int h1 r1
    simp only [List.drop_zero, List.drop_succ_cons, List.take_succ_cons, List.take_zero, List.cons.injEq, and_true] at e0 e1
    subst e0 e1
    exact ⟨⟨T, N⟩, rfl, i64_of_wf w1⟩
/-- an argument that is an op -/
theorem open_ok {H : Type} {enc : TypeId × Value → H} {P : Program} {W : World} {base : Nat} {t : TypeId} (hT : OkTy P t) {v : Value} {d : DataW H} {p : List MemPlace} (hv : Value.okWide P W .any base t v) (h : DataW.Trod enc P W 0 (fun _ => true) true t v d p) : ∃ o : Ok, v = .agg o.l.toArray ∧ OkIn o := by
  obtain ⟨f0, f1, f2, f3, ht, _⟩ := hT.it
  obtain ⟨cs, rfl, _⟩ := okWide_struct ht hv
  obtain ⟨fuel, hf⟩ := h
  obtain ⟨o, hc, ho⟩ := open_okc hT hf
  obtain ⟨cs⟩ := cs
  have hc : cs = o.l := hc
  subst hc
  exact ⟨o, rfl, ho⟩
/-- an argument that is the service's values -/
theorem open_cells {H : Type} {enc : TypeId × Value → H} {P : Program} {W : World} {t e : TypeId} (ht : P.underlying t = some (.array 16 e)) (hT : ClTy P e) (hct : P.cellsOf t = 32) {v : Value} {d : DataW H} {p : List MemPlace} (h : DataW.Trod enc P W 0 (fun _ => true) true t v d p) : ∃ c : List Cl, v = .agg (cvs c).toArray ∧ ClIn c := by
  obtain ⟨fuel, hf⟩ := h
  obtain ⟨xs, m, rfl, hx, hl, hn, hel⟩ := DataW.trod_array ht hf
  rw [hct] at hl
  have hce : P.cellsOf e = 2 := by
    obtain ⟨f0, f1, _, _, hcl, _⟩ := hT.it
    simp only [List.cons.injEq, and_true] at hcl
    exact hcl.1
  have hag : ∃ cs : Array Value, v = .agg cs := by
    cases v <;> first | exact ⟨_, rfl⟩ | (simp [Value.cells] at hl)
  obtain ⟨⟨l⟩, rfl⟩ := hag
  have hl' : l.length = 32 := by simpa [Value.cells] using hl
  have each : ∀ i, ∃ x : Cl, i < 16 → (l[2 * i]? = some (.bool x.t) ∧ l[2 * i + 1]? = some (.int .i64 x.n)) ∧ i64s x.n := by
    intro i
    by_cases hi : i < 16
    · have h1 := hel i hi
      rw [hce, List.getElem?_eq_getElem (by omega)] at h1
      obtain ⟨x, e1, hw⟩ := open_clc hT h1
      have a0 := congrArg (fun l => l[0]?) e1
      have a1 := congrArg (fun l => l[1]?) e1
      simp only [List.getElem?_take, List.getElem?_drop, Cl.l] at a0 a1
      refine ⟨x, fun _ => ⟨⟨?_, ?_⟩, hw⟩⟩
      · rw [show 2 * i = i * 2 + 0 from by omega]; simpa [Value.cells] using a0
      · rw [show 2 * i + 1 = i * 2 + 1 from by omega]; simpa [Value.cells] using a1
    · exact ⟨zC, fun h => absurd h hi⟩
  obtain ⟨f, hf⟩ := Classical.skolem.1 each
  refine ⟨(List.range 16).map f, ?_, ⟨by simp, fun x hx => ?_⟩⟩
  · congr 1
    apply Array.ext'
    simp only
    apply List.ext_getElem?
    intro j
    rcases Nat.lt_or_ge j 32 with hj | hj
    · have hi : j / 2 < 16 := by omega
      obtain ⟨⟨a0, a1⟩, _⟩ := hf (j / 2) hi
      have hg : ((List.range 16).map f)[j / 2]? = some (f (j / 2)) := by rw [List.getElem?_map, List.getElem?_range hi]; rfl
      obtain ⟨b0, b1⟩ := cvs_at _ _ _ hg
      rcases Nat.mod_two_eq_zero_or_one j with hm | hm
      · have e : j = 2 * (j / 2) := by omega
        rw [e, a0, b0]
      · have e : j = 2 * (j / 2) + 1 := by omega
        rw [e, a1, b1]
    · rw [List.getElem?_eq_none (by omega), List.getElem?_eq_none (by rw [len_cvs]; simp; omega)]
  · obtain ⟨i, hi, rfl⟩ := List.mem_map.1 hx
    exact (hf i (by simpa using hi)).2
/-- an argument that is a list of ops -/
theorem open_oks {H : Type} {enc : TypeId × Value → H} {P : Program} {W : World} {base : Nat} {t e : TypeId} (ht : P.underlying t = some (.slice e)) (hT : OkTy P e) {v : Value} {d : DataW H} {p : List MemPlace} (hv : Value.okWide P W .any base t v) (h : DataW.Trod enc P W 0 (fun _ => true) true t v d p) :
    ∃ l : List Ok, Rd W (fun _ => True) v (wds okD l) ∧ ∀ a ∈ l, OkIn a := by
  obtain ⟨a, len, cap, rfl⟩ := okWide_slice ht hv
  obtain ⟨fuel, hf⟩ := h
  rcases open_slice ht hf with ⟨hcs, _⟩ | ⟨x, len', cap', m, n, D, Pl, hcs, _, hl, hm, hmm, _, hi⟩
  · simp [Value.cells] at hcs
    obtain ⟨rfl, rfl, rfl⟩ := hcs
    exact ⟨[], wds_nil, fun r h => by simp at h⟩
  · simp [Value.cells] at hcs
    obtain ⟨rfl, rfl, rfl⟩ := hcs
    simp at hmm
    subst hmm
    have hall : ∀ i, ∃ r : Ok, i < len → (∀ j, j < 4 → W.cell? ((x.add (i * 4)).add j) = (r.l)[j]?) ∧ OkIn r := fun i => by
      by_cases hlt : i < len
      · obtain ⟨cs', hc, hd⟩ := hi i (by omega)
        rw [hT.cells] at hc
        obtain ⟨_, _, hat⟩ := World.cells?_some hc
        obtain ⟨r, rfl, h2⟩ := open_okc hT hd
        exact ⟨r, fun _ => ⟨hat, h2⟩⟩
      · exact ⟨⟨0, 0, 0, 0⟩, fun h => absurd h hlt⟩
    obtain ⟨f, hf⟩ := Classical.skolem.1 hall
    refine ⟨(List.range len).map f, ?_, fun r hr => ?_⟩
    · unfold wds Rd
      have hll : ((List.range len).map f).length = len := by simp
      refine ⟨some x, m, by rw [hll], by rw [hll]; exact hl, hm, fun h => by rw [List.eq_nil_of_length_eq_zero h]; rfl, fun hne => ?_⟩
      have hpos : 0 < len := by
        rcases Nat.eq_zero_or_pos len with h0 | h0
        · subst h0; exact absurd (by simp) hne
        · exact h0
      have hx0 : x.spot = none := by
        obtain ⟨hc, _⟩ := hf 0 hpos
        have := spot_none ((hc 0 (by omega)).trans (by rfl : ((f 0).l)[0]? = some (.int .i64 (f 0).k)))
        simpa [Addr.add] using this
      obtain ⟨g, off, sp⟩ := x
      simp only at hx0
      subst hx0
      refine ⟨g, off, rfl, trivial, wdC_of okD _ off (fun i r hr => ?_)⟩
      have hil : i < len := by have := (List.getElem?_eq_some_iff.1 hr).1; simpa using this
      have hfi : r = f i := by
        rw [List.getElem?_map, List.getElem?_range hil] at hr
        simpa using hr.symm
      subst hfi
      obtain ⟨hc, _⟩ := hf i hil
      have hm : WdEl W (fun _ => True) okD (f i) (f i).l := ok_mk
      refine wdC_in _ ((f i).l) _ (by rw [okD.len]; rfl) (fun j w hw => ?_) hm.at_
      have hj : j < 4 := (List.getElem?_eq_some_iff.1 hw).1
      have := hc j hj
      rw [add_mk, add_mk] at this
      rw [this]
      exact hw
    · obtain ⟨i, hi', rfl⟩ := List.mem_map.1 hr
      obtain ⟨_, h2⟩ := hf i (by simpa using hi')
      exact h2
end Go.V
namespace Go.Proofs.YtfjgfaccfjdklaaDoor
open Go.RowKit Go.V
theorem okTy : OkTy Tryd.prog 51 := ⟨⟨_, _, _, _, Tryd.underlying51, by kernel_rfl, by kernel_rfl, Tryd.underlying3, Tryd.underlying3, Tryd.underlying2, Tryd.underlying2⟩⟩
theorem clTy : ClTy Tryd.prog 26 := ⟨⟨_, _, Tryd.underlying26, by kernel_rfl, by kernel_rfl, Tryd.underlying4, Tryd.underlying2⟩⟩
end Go.Proofs.YtfjgfaccfjdklaaDoor
