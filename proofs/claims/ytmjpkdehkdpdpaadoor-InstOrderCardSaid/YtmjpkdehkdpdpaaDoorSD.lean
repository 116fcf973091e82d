/- SD: several texts in one (SB SL SD). -/
import Derived.Test.YtmjpkdehkdpdpaaDoorSA
import Derived.Stop.BytesEq
import Derived.Lib.SlBytesConst
import Derived.Test.YtmjpkdehkdpdpaaDoorF
import Derived.ProofKit
import Derived.LaidMore
import Derived.OpenShut
import Derived.Stop.Joined
/- SB: contracts of the document's All and Chain. -/
namespace Go.Proofs.YtmjpkdehkdpdpaaDoor
open Go.RowKit Go.V

end Go.Proofs.YtmjpkdehkdpdpaaDoor
/- SL: the laws of layer 2: what each law's Go function comes to. -/
namespace Go.Proofs.YtmjpkdehkdpdpaaDoor
open Go.RowKit Go.V

theorem eqB (p : List UInt8) (hp : p.length = 32) : ∀ W : World, (Op.equalIn 10000 41 (.agg (bvs p).toArray) (.agg (bvs p).toArray)).run Tryd.prog W = .ok true W := fun W => by
  have := run_equalIn_bytes (P := Tryd.prog) W 9998 41 5 32 und25 Tryd.underlying5 Tryd.sizeOf5 p p hp hp
  rw [beq_self_eq_true] at this
  exact this
theorem at4 {l : List UInt8} {a b c d : UInt8} (h : l.take 4 = [a, b, c, d]) : l[0]? = some a ∧ l[1]? = some b ∧ l[2]? = some c ∧ l[3]? = some d := by
  have e : ∀ i, i < 4 → l[i]? = ([a, b, c, d] : List UInt8)[i]? := by
    intro i hi
    rw [← h, List.getElem?_take, if_pos hi]
  exact ⟨e 0 (by omega), e 1 (by omega), e 2 (by omega), e 3 (by omega)⟩
theorem bsB (x0 x1 x2 : Int) : ∀ W : World, (Instr.buildSlice 35 3 #[(0, .int .u8 x0), (1, .int .u8 x1), (2, .int .u8 x2)]).run Tryd.prog W = .ok (.slice (some ⟨W.heap.size, 0, none⟩) 3 3) (W.alloc (.cells #[.int .u8 x0, .int .u8 x1, .int .u8 x2] 5)) := fun _ => by kernel_rfl

theorem cvB (w : World) : (convert 35 35 (.slice (some ⟨w.heap.size, 0, none⟩) 3 3)).run Tryd.prog (w.alloc (.cells #[.int .u8 97, .int .u8 98, .int .u8 99] 5)) = .ok (.slice (some ⟨w.heap.size, 0, none⟩) 3 3) (w.alloc (.cells #[.int .u8 97, .int .u8 98, .int .u8 99] 5 (3, 4))) :=
  Lib.run_convert_bytes_const w 35 5 #[.int .u8 97, .int .u8 98, .int .u8 99] 3 3 Tryd.underlying35 Tryd.underlying5
theorem rdAbc (w : World) (t : TypeId) (fr : Nat × Nat) : Rd (w.alloc (.cells #[.int .u8 97, .int .u8 98, .int .u8 99] t fr)) (fun _ => True) (.slice (some ⟨w.heap.size, 0, none⟩) 3 3) (bys [97, 98, 99]) := by
  unfold bys Rd
  refine ⟨_, 3, rfl, by simp, by simp [maxLen], fun h => by simp at h, fun _ => ⟨_, _, rfl, trivial, RdC.of_bytes fun j u hu => ?_⟩⟩
  have hh : (w.alloc (.cells #[.int .u8 97, .int .u8 98, .int .u8 99] t fr)).heap[w.heap.size]? = some (.cells #[.int .u8 97, .int .u8 98, .int .u8 99] t fr) := heap_alloc_new w _
  rw [Nat.zero_add]
  simp only [World.cell?, hh]
  simp [bvs, byteV] at hu ⊢
  exact hu
end Go.Proofs.YtmjpkdehkdpdpaaDoor
/- SD: what the listed variable gives the walks; a world that meets it. -/
namespace Go.Proofs.YtmjpkdehkdpdpaaDoor
open Go.ChangeShapes Go.WideShapes Go.ChangeAt Go.RowKit Go.V

theorem own : ownKnob Tryd.prog.godebug = none := by kernel_rfl
theorem laidOut : laidOutB Tryd.prog = true := by kernel_rfl
theorem gK : Tryd.prog.globalNamed "consistory/sha.constants" = some 0 := by kernel_rfl
theorem tK : (Tryd.prog.globals[(0 : Nat)]?).map (·.type) = some 147 := by kernel_rfl
theorem cellsK : Tryd.prog.cellsOf 125 = 1 := by kernel_rfl
def laidK : List (String × DataW Unit) := [("consistory/sha.constants", Rows.laid_consistory_sha_constants)]
theorem laidK_kl : (Rows.laid_consistory_sha_constants : DataW Unit) = .agg (kl.map fun x => .lit (.int .u32 (x.toNat : Int))) := by rfl
set_option maxRecDepth 100000 in
theorem ks_of_laid {W : World} (h : laidMetH Tryd.prog laidK W) : KS W := by
  rw [MakeChecks.laidMetH_plain _ _ _ (by kernel_rfl)] at h
  obtain ⟨ps, ⟨g, t, cs, f, p, q, hg, ht, hv, hd, _, _⟩, _⟩ := h
  obtain rfl := Option.some.inj (gK.symm.trans hg)
  obtain rfl := Option.some.inj (tK.symm.trans ht)
  obtain ⟨xs, m, rfl, hx, hl, hn, hel⟩ := DataW.trod_array Tryd.underlying147 hd
  rw [laidK_kl] at hx
  simp only [Prod.mk.injEq, DataW.agg.injEq] at hx
  intro j v hj
  have hj64 : j < 64 := by
    have := (List.getElem?_eq_some_iff.1 hj).1
    simpa [len_wvs, kl] using this
  have hxj : j < xs.length := by omega
  have he := hel j hj64
  rw [cellsK, Nat.mul_one, List.getElem?_eq_getElem hxj] at he
  obtain ⟨n, e1, e2, _⟩ := DataW.trod_int Tryd.underlying125 he
  obtain ⟨x, hxk⟩ : ∃ x, kl[j]? = some x := ⟨_, List.getElem?_eq_getElem (by simpa [kl] using hj64)⟩
  have h3 := congrArg (fun l => l[j]?) hx.1
  simp only [List.getElem?_map, hxk, List.getElem?_eq_getElem hxj, Option.map_some, e2] at h3
  have hnx : n = (x.toNat : Int) := by simpa using h3.symm
  have hvx : v = u32V x := by
    have := wvs_at kl j x hxk
    rw [this] at hj
    injection hj with hj
    exact hj.symm
  have hc := World.var?_cell hg hv j
  rw [Nat.zero_add, hc, hvx]
  have h1 : (cs.toList.drop j)[0]? = some (.int .u32 n) := by
    have := congrArg (fun l => l[0]?) e1
    simp only [List.getElem?_take, Nat.lt_one_iff, if_true] at this
    simpa using this
  rw [List.getElem?_drop] at h1
  rw [hnx] at h1
  simpa [u32V] using h1
set_option maxRecDepth 100000 in
theorem door_met (os : Os) (args : Array Value) : laidMetH Tryd.prog laidK ((World.doorLaid Tryd.prog 400 os).forCall (fun _ _ => 0) ⟨#[], args, []⟩).memory :=
  laidMetH_of_parts3 (fuel := 8) (laidMet_of_run' 8 (by kernel_rfl) (by kernel_rfl)) (by kernel_rfl) (by kernel_rfl)
end Go.Proofs.YtmjpkdehkdpdpaaDoor
