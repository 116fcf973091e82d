/- F6: several texts in one (SD F2 FW FN F6). -/
import Derived.Test.YthbbpfnfnnmdnaaDoorSL
import Derived.Test.YthbbpfnfnnmdnaaDoorCx
import Derived.ProofKit
import Derived.LaidMore
import Derived.OpenShut
import Derived.Stop.Joined
import Derived.Test.YthbbpfnfnnmdnaaDoorVA
import Derived.Deep.Matrix
import Derived.Test.YthbbpfnfnnmdnaaDoorLW
import Derived.Lib.SmallJoins
import Derived.Deep.Slices
import Derived.ChangeSame
import Derived.Test.YthbbpfnfnnmdnaaDoorAV
import Derived.Test.YthbbpfnfnnmdnaaDoorCp
/- SD: what the listed variable gives the walks; a world that meets it. -/
namespace Go.Proofs.YthbbpfnfnnmdnaaDoor
open Go.ChangeShapes Go.WideShapes Go.ChangeAt Go.RowKit Go.V

theorem own : ownKnob Tryd.prog.godebug = none := by kernel_rfl
theorem laidOut : laidOutB Tryd.prog = true := by kernel_rfl
theorem gK : Tryd.prog.globalNamed "consistory/sha.constants" = some 0 := by kernel_rfl
theorem tK : (Tryd.prog.globals[(0 : Nat)]?).map (·.type) = some 147 := by kernel_rfl
theorem cellsK : Tryd.prog.cellsOf 125 = 1 := by kernel_rfl
def laidK : List (String × DataW Unit) := [("consistory/sha.constants", Rows.laid_consistory_sha_constants)]
theorem laidK_kl : (Rows.laid_consistory_sha_constants : DataW Unit) = .agg (kl.map fun x => .lit (.int .u32 (x.toNat : Int))) := by rfl
set_option maxRecDepth 100000 in
theorem ks_of_laid {W : World} (h : laidMetH Tryd.prog laidK W) : KS W := by
  rw [MakeChecks.laidMetH_plain _ _ _ (by kernel_rfl)] at h
  obtain ⟨ps, ⟨g, t, cs, f, p, q, hg, ht, hv, hd, _, _⟩, _⟩ := h
  obtain rfl := Option.some.inj (gK.symm.trans hg)
  obtain rfl := Option.some.inj (tK.symm.trans ht)
  obtain ⟨xs, m, rfl, hx, hl, hn, hel⟩ := DataW.trod_array Tryd.underlying147 hd
  rw [laidK_kl] at hx
  simp only [Prod.mk.injEq, DataW.agg.injEq] at hx
  intro j v hj
  have hj64 : j < 64 := by
    have := (List.getElem?_eq_some_iff.1 hj).1
    simpa [len_wvs, kl] using this
  have hxj : j < xs.length := by omega
  have he := hel j hj64
  rw [cellsK, Nat.mul_one, List.getElem?_eq_getElem hxj] at he
  obtain ⟨n, e1, e2, _⟩ := DataW.trod_int Tryd.underlying125 he
  obtain ⟨x, hxk⟩ : ∃ x, kl[j]? = some x := ⟨_, List.getElem?_eq_getElem (by simpa [kl] using hj64)⟩
  have h3 := congrArg (fun l => l[j]?) hx.1
  simp only [List.getElem?_map, hxk, List.getElem?_eq_getElem hxj, Option.map_some, e2] at h3
  have hnx : n = (x.toNat : Int) := by simpa using h3.symm
  have hvx : v = u32V x := by
    have := wvs_at kl j x hxk
    rw [this] at hj
    injection hj with hj
    exact hj.symm
  have hc := World.var?_cell hg hv j
  rw [Nat.zero_add, hc, hvx]
  have h1 : (cs.toList.drop j)[0]? = some (.int .u32 n) := by
    have := congrArg (fun l => l[0]?) e1
    simp only [List.getElem?_take, Nat.lt_one_iff, if_true] at this
    simpa using this
  rw [List.getElem?_drop] at h1
  rw [hnx] at h1
  simpa [u32V] using h1
set_option maxRecDepth 100000 in
theorem door_met (os : Os) (args : Array Value) : laidMetH Tryd.prog laidK ((World.doorLaid Tryd.prog 400 os).forCall (fun _ _ => 0) ⟨#[], args, []⟩).memory :=
  laidMetH_of_parts3 (fuel := 8) (laidMet_of_run' 8 (by kernel_rfl) (by kernel_rfl)) (by kernel_rfl) (by kernel_rfl)
end Go.Proofs.YthbbpfnfnnmdnaaDoor
/- F2: opening arguments that are texts of texts, and digests. No project text but the type of texts' lists. -/
namespace Go.V
open Go.ChangeShapes Go.WideShapes Go.ChangeAt Go.RowKit

end Go.V
/- FW: opening arguments that are lists of structs, or arrays of them, whatever the struct. No project text. -/
namespace Go.V
open Go.ChangeShapes Go.WideShapes Go.ChangeAt Go.RowKit Go.Joins Go.Deep
variable {α : Type} {k : Nat}
/-- a cell that is a list of structs -/
theorem open_wdsc {H : Type} {enc : TypeId × Value → H} {P : Program} {W : World} {t e : TypeId} (T : WD α k) (ht : P.underlying t = some (.slice e)) (hce : P.cellsOf e = k) (Q : α → Prop) (a0 : α)
    (hop : ∀ (fuel : Nat) (cs : List Value) (x : DataW H × List MemPlace), DataW.trod enc P W 0 (fun _ => true) true fuel e cs = some x → ∃ a, WdEl W (fun _ => True) T a cs ∧ Q a)
    {fuel : Nat} {c : Value} {y : DataW H × List MemPlace} (hf : DataW.trod enc P W 0 (fun _ => true) true fuel t [c] = some y) : ∃ l : List α, Rd W (fun _ => True) c (wds T l) ∧ ∀ a ∈ l, Q a := by
  rcases open_slice ht hf with ⟨hcs, _⟩ | ⟨x, len, cap, m, n, D, Pl, hcs, _, hl, hm, hmm, _, hi⟩
  · injection hcs with hcs
    subst hcs
    exact ⟨[], wds_nil, fun r h => by simp at h⟩
  · injection hcs with hcs
    subst hcs
    simp at hmm
    subst hmm
    have hall : ∀ i, ∃ r : α, i < len → ∃ cs, (∀ j, j < k → W.cell? ((x.add (i * k)).add j) = cs[j]?) ∧ WdEl W (fun _ => True) T r cs ∧ Q r := fun i => by
      by_cases hlt : i < len
      · obtain ⟨cs', hc, hd⟩ := hi i (by omega)
        rw [hce] at hc
        obtain ⟨_, _, hat⟩ := World.cells?_some hc
        obtain ⟨r, h1, h2⟩ := hop _ _ _ hd
        exact ⟨r, fun _ => ⟨cs', hat, h1, h2⟩⟩
      · exact ⟨a0, fun h => absurd h hlt⟩
    obtain ⟨f, hf⟩ := Classical.skolem.1 hall
    refine ⟨(List.range len).map f, ?_, fun r hr => ?_⟩
    · unfold wds Rd
      have hll : ((List.range len).map f).length = len := by simp
      refine ⟨some x, m, by rw [hll], by rw [hll]; exact hl, hm, fun h => by rw [List.eq_nil_of_length_eq_zero h]; rfl, fun hne => ?_⟩
      have hpos : 0 < len := by
        rcases Nat.eq_zero_or_pos len with h0 | h0
        · subst h0; exact absurd (by simp) hne
        · exact h0
      have hx0 : x.spot = none := by
        obtain ⟨cs, hc, hel, _⟩ := hf 0 hpos
        have hp := T.pos
        have h0 := hc 0 hp
        rw [List.getElem?_eq_getElem (by rw [hel.len]; exact hp)] at h0
        have := spot_none h0
        simpa [Addr.add] using this
      obtain ⟨g, off, sp⟩ := x
      simp only at hx0
      subst hx0
      refine ⟨g, off, rfl, trivial, wdC_of T _ off (fun i r hr => ?_)⟩
      have hil : i < len := by have := (List.getElem?_eq_some_iff.1 hr).1; simpa using this
      have hfi : r = f i := by
        rw [List.getElem?_map, List.getElem?_range hil] at hr
        simpa using hr.symm
      subst hfi
      obtain ⟨cs, hc, hm, _⟩ := hf i hil
      refine wdC_in _ cs _ (by rw [T.len, hm.len]) (fun j w hw => ?_) hm.at_
      have hj : j < k := by have := (List.getElem?_eq_some_iff.1 hw).1; rw [hm.len] at this; exact this
      have := hc j hj
      rw [add_mk, add_mk] at this
      rw [this]
      exact hw
    · obtain ⟨i, hi', rfl⟩ := List.mem_map.1 hr
      obtain ⟨_, _, _, h2⟩ := hf i (by simpa using hi')
      exact h2
/-- an argument that is a list of structs -/
theorem open_wds {H : Type} {enc : TypeId × Value → H} {P : Program} {W : World} {base : Nat} {t e : TypeId} (T : WD α k) (ht : P.underlying t = some (.slice e)) (hce : P.cellsOf e = k) (Q : α → Prop) (a0 : α)
    (hop : ∀ (fuel : Nat) (cs : List Value) (x : DataW H × List MemPlace), DataW.trod enc P W 0 (fun _ => true) true fuel e cs = some x → ∃ a, WdEl W (fun _ => True) T a cs ∧ Q a)
    {v : Value} {d : DataW H} {p : List MemPlace} (hv : Value.okWide P W .any base t v) (h : DataW.Trod enc P W 0 (fun _ => true) true t v d p) : ∃ l : List α, Rd W (fun _ => True) v (wds T l) ∧ ∀ a ∈ l, Q a := by
  obtain ⟨a, len, cap, rfl⟩ := okWide_slice ht hv
  obtain ⟨fuel, hf⟩ := h
  exact open_wdsc T ht hce Q a0 hop hf
end Go.V
/- FN: opening arguments of layer 18: lists of acts (a kind and bytes), two of them. -/
namespace Go.Proofs.YthbbpfnfnnmdnaaDoor
open Go.ChangeShapes Go.WideShapes Go.ChangeAt Go.RowKit Go.Joins Go.Deep Go.V
/-- what is said of the types of an act -/
structure AtTy (P : Program) (t : TypeId) : Prop where
  it : ∃ f0 f1 : Field, ∃ eb : TypeId, P.underlying t = some (.struct #[f0, f1]) ∧ [f0.offset, f1.offset] = [0, 1] ∧ [P.cellsOf t, P.cellsOf f0.type, P.cellsOf f1.type] = [2, 1, 1] ∧
    P.underlying f0.type = some (.int .i64) ∧ P.underlying f1.type = some (.slice eb) ∧ P.underlying eb = some (.int .u8) ∧ P.cellsOf eb = 1
theorem AtTy.cells {P : Program} {t : TypeId} (hT : AtTy P t) : P.cellsOf t = 2 := by
  obtain ⟨_, _, _, _, _, hcl, _⟩ := hT.it
  simp only [List.cons.injEq, and_true] at hcl
  exact hcl.1
theorem open_atc {H : Type} {enc : TypeId × Value → H} {P : Program} {W : World} {t : TypeId} (hT : AtTy P t) {fuel : Nat} {cs : List Value} {x : DataW H × List MemPlace} (h : DataW.trod enc P W 0 (fun _ => true) true fuel t cs = some x) : ∃ a, WdEl W (fun _ => True) atD a cs ∧ True := by
  obtain ⟨f0, f1, eb, ht, hof, hcl, h0, h1, hb, cb⟩ := hT.it
  obtain ⟨y0, y1, n, _, hl, r0, r1⟩ := trod_struct2 ht h
  simp only [List.cons.injEq, and_true] at hof hcl
  obtain ⟨o0, o1⟩ := hof
  obtain ⟨k, k0, k1⟩ := hcl
  rw [k] at hl
  rw [o0, k0] at r0
  rw [o1, k1] at r1
  match cs, hl with
  | [c0, c1], _ =>
    obtain ⟨K, e0, _, w0⟩ := DataW.trod_int h0 r0
    simp only [List.drop_zero, List.drop_succ_cons, List.take_succ_cons, List.take_zero, List.cons.injEq, and_true] at e0 r1
    subst e0
    obtain ⟨bs, R⟩ := open_bysc h1 hb cb r1
    exact ⟨⟨K, bs⟩, at_mk R, trivial⟩
/-- an argument that is a list of acts -/
theorem open_ats {H : Type} {enc : TypeId × Value → H} {P : Program} {W : World} {base : Nat} {t e : TypeId} (ht : P.underlying t = some (.slice e)) (hT : AtTy P e) {v : Value} {d : DataW H} {p : List MemPlace} (hv : Value.okWide P W .any base t v) (h : DataW.Trod enc P W 0 (fun _ => true) true t v d p) :
    ∃ l : List At, Rd W (fun _ => True) v (wds atD l) := by
  obtain ⟨l, h1, _⟩ := open_wds atD ht hT.cells (fun _ => True) ⟨0, []⟩ (fun _ _ _ h => open_atc hT h) hv h
  exact ⟨l, h1⟩
/-- an argument that is two lists of acts -/
theorem open_twoats {H : Type} {enc : TypeId × Value → H} {P : Program} {W : World} {t e q : TypeId} (ht : P.underlying t = some (.array 2 e)) (he : P.underlying e = some (.slice q)) (hT : AtTy P q) (hct : P.cellsOf t = 2) (hce : P.cellsOf e = 1)
    {v : Value} {d : DataW H} {p : List MemPlace} (h : DataW.Trod enc P W 0 (fun _ => true) true t v d p) : ∃ (u0 u1 : Value) (l0 l1 : List At), v = .agg #[u0, u1] ∧ Rd W (fun _ => True) u0 (wds atD l0) ∧ Rd W (fun _ => True) u1 (wds atD l1) := by
  obtain ⟨fuel, hf⟩ := h
  obtain ⟨xs, m, rfl, hx, hl, hn, hel⟩ := DataW.trod_array ht hf
  rw [hct] at hl
  have hag : ∃ cs : Array Value, v = .agg cs := by
    cases v <;> first | exact ⟨_, rfl⟩ | (simp [Value.cells] at hl)
  obtain ⟨⟨l⟩, rfl⟩ := hag
  have hl' : l.length = 2 := by simpa [Value.cells] using hl
  match l, hl' with
  | [u0, u1], _ =>
    have h0 := hel 0 (by omega)
    have h1 := hel 1 (by omega)
    rw [hce, List.getElem?_eq_getElem (by omega)] at h0 h1
    obtain ⟨l0, R0, _⟩ := open_wdsc atD he hT.cells (fun _ => True) ⟨0, []⟩ (fun _ _ _ h => open_atc hT h) (c := u0) h0
    obtain ⟨l1, R1, _⟩ := open_wdsc atD he hT.cells (fun _ => True) ⟨0, []⟩ (fun _ _ _ h => open_atc hT h) (c := u1) h1
    exact ⟨u0, u1, l0, l1, rfl, R0, R1⟩
theorem atTy : AtTy Tryd.prog 37 := ⟨⟨_, _, _, Tryd.underlying37, by kernel_rfl, by kernel_rfl, Tryd.underlying3, Tryd.underlying35, Tryd.underlying5, by kernel_rfl⟩⟩
end Go.Proofs.YthbbpfnfnnmdnaaDoor
/- F6: opening an argument that is a view. No project text. -/
namespace Go.V
open Go.ChangeShapes Go.WideShapes Go.ChangeAt Go.RowKit Go.Joins Go.Deep
/-- an argument that is a view -/
theorem open_view {H : Type} {enc : TypeId × Value → H} {P : Program} {W : World} {base : Nat} {t : TypeId} {f0 f1 : Field} (ht : P.underlying t = some (.struct #[f0, f1])) (hone : oneCellFields P #[f0, f1] = true) (hC : P.cellsOf t = 2)
    (h0 : P.underlying f0.type = some (.int .i64)) (h1 : P.underlying f1.type = some (.int .u16))
    {v : Value} {d : DataW H} {p : List MemPlace} (hv : Value.okWide P W .any base t v) (h : DataW.Trod enc P W 0 (fun _ => true) true t v d p) :
    ∃ (n : Int) (M : Nat), v = vw n M ∧ M < 65536 ∧ -9223372036854775808 ≤ n ∧ n ≤ 9223372036854775807 := by
  obtain ⟨v0, v1, y0, y1, k, rfl, _, _, r0, r1⟩ := open_agg2 ht hone hC hv h
  obtain ⟨n, e0, _, w0⟩ := DataW.trod_int h0 r0
  obtain ⟨m, e1, _, w1⟩ := DataW.trod_int h1 r1
  obtain ⟨M, rfl, hM⟩ := u16_of_wf w1
  have hn := i64_of_wf w0
  injection e0 with e0
  injection e1 with e1
  subst e0 e1
  exact ⟨n, M, rfl, hM, hn⟩
end Go.V
