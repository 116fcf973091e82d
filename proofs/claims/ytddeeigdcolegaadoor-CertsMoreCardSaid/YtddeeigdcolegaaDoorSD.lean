/- SD: what the listed variable gives the walks; a world that meets it. -/
import Derived.Test.YtddeeigdcolegaaDoorSL
import Derived.Test.YtddeeigdcolegaaDoorF
import Derived.ProofKit
import Derived.LaidMore
import Derived.OpenShut
import Derived.Stop.Joined
namespace Go.Proofs.YtddeeigdcolegaaDoor
open Go.ChangeShapes Go.WideShapes Go.ChangeAt Go.RowKit Go.V

theorem own : ownKnob Tryd.prog.godebug = none := by kernel_rfl
theorem laidOut : laidOutB Tryd.prog = true := by kernel_rfl
theorem gK : Tryd.prog.globalNamed "consistory/sha.constants" = some 0 := by kernel_rfl
theorem tK : (Tryd.prog.globals[(0 : Nat)]?).map (·.type) = some 130 := by kernel_rfl
theorem cellsK : Tryd.prog.cellsOf 115 = 1 := by kernel_rfl
def laidK : List (String × DataW Unit) := [("consistory/sha.constants", Rows.laid_consistory_sha_constants)]
theorem laidK_kl : (Rows.laid_consistory_sha_constants : DataW Unit) = .agg (kl.map fun x => .lit (.int .u32 (x.toNat : Int))) := by rfl
set_option maxRecDepth 100000 in
theorem ks_of_laid {W : World} (h : laidMetH Tryd.prog laidK W) : KS W := by
  rw [MakeChecks.laidMetH_plain _ _ _ (by kernel_rfl)] at h
  obtain ⟨ps, ⟨g, t, cs, f, p, q, hg, ht, hv, hd, _, _⟩, _⟩ := h
  obtain rfl := Option.some.inj (gK.symm.trans hg)
  obtain rfl := Option.some.inj (tK.symm.trans ht)
  obtain ⟨xs, m, rfl, hx, hl, hn, hel⟩ := DataW.trod_array Tryd.underlying130 hd
  rw [laidK_kl] at hx
  simp only [Prod.mk.injEq, DataW.agg.injEq] at hx
  intro j v hj
  have hj64 : j < 64 := by
    have := (List.getElem?_eq_some_iff.1 hj).1
    simpa [len_wvs, kl] using this
  have hxj : j < xs.length := by omega
  have he := hel j hj64
  rw [cellsK, Nat.mul_one, List.getElem?_eq_getElem hxj] at he
  obtain ⟨n, e1, e2, _⟩ := DataW.trod_int Tryd.underlying115 he
  obtain ⟨x, hxk⟩ : ∃ x, kl[j]? = some x := ⟨_, List.getElem?_eq_getElem (by simpa [kl] using hj64)⟩
  have h3 := congrArg (fun l => l[j]?) hx.1
  simp only [List.getElem?_map, hxk, List.getElem?_eq_getElem hxj, Option.map_some, e2] at h3
  have hnx : n = (x.toNat : Int) := by simpa using h3.symm
  have hvx : v = u32V x := by
    have := wvs_at kl j x hxk
    rw [this] at hj
    injection hj with hj
    exact hj.symm
  have hc := World.var?_cell hg hv j
  rw [Nat.zero_add, hc, hvx]
  have h1 : (cs.toList.drop j)[0]? = some (.int .u32 n) := by
    have := congrArg (fun l => l[0]?) e1
    simp only [List.getElem?_take, Nat.lt_one_iff, if_true] at this
    simpa using this
  rw [List.getElem?_drop] at h1
  rw [hnx] at h1
  simpa [u32V] using h1
set_option maxRecDepth 100000 in
theorem door_met (os : Os) (args : Array Value) : laidMetH Tryd.prog laidK ((World.doorLaid Tryd.prog 400 os).forCall (fun _ _ => 0) ⟨#[], args, []⟩).memory :=
  laidMetH_of_parts3 (fuel := 8) (laidMet_of_run' 8 (by kernel_rfl) (by kernel_rfl)) (by kernel_rfl) (by kernel_rfl)
end Go.Proofs.YtddeeigdcolegaaDoor
