/- XF: several texts in one (SB SL SD F2 FW QG XF). -/
import Derived.Test.YtnhhbbjkeekneaaDoorSA
import Derived.Stop.BytesEq
import Derived.Lib.SlBytesConst
import Derived.Test.YtnhhbbjkeekneaaDoorZ2
import Derived.ProofKit
import Derived.LaidMore
import Derived.OpenShut
import Derived.Stop.Joined
import Derived.Test.YtnhhbbjkeekneaaDoorVA
import Derived.Deep.Matrix
import Derived.Test.YtnhhbbjkeekneaaDoorAV
import Derived.Lib.SmallJoins
import Derived.Deep.Slices
import Derived.ChangeSame
import Derived.Test.YtnhhbbjkeekneaaDoorQA
import Derived.Test.YtnhhbbjkeekneaaDoorN6
import Derived.Test.YtnhhbbjkeekneaaDoorVH
import Derived.Test.YtnhhbbjkeekneaaDoorVE
/- SB: contracts of the document's All and Chain. -/
namespace Go.Proofs.YtnhhbbjkeekneaaDoor
open Go.RowKit Go.V

end Go.Proofs.YtnhhbbjkeekneaaDoor
/- SL: the laws of layer 2: what each law's Go function comes to. -/
namespace Go.Proofs.YtnhhbbjkeekneaaDoor
open Go.RowKit Go.V

end Go.Proofs.YtnhhbbjkeekneaaDoor
/- SD: what the listed variable gives the walks; a world that meets it. -/
namespace Go.Proofs.YtnhhbbjkeekneaaDoor
open Go.ChangeShapes Go.WideShapes Go.ChangeAt Go.RowKit Go.V

theorem own : ownKnob Tryd.prog.godebug = none := by kernel_rfl
theorem laidOut : laidOutB Tryd.prog = true := by kernel_rfl
theorem gK : Tryd.prog.globalNamed "consistory/sha.constants" = some 0 := by kernel_rfl
theorem tK : (Tryd.prog.globals[(0 : Nat)]?).map (·.type) = some 114 := by kernel_rfl
theorem cellsK : Tryd.prog.cellsOf 95 = 1 := by kernel_rfl
def laidK : List (String × DataW Unit) := [("consistory/sha.constants", Rows.laid_consistory_sha_constants)]
theorem laidK_kl : (Rows.laid_consistory_sha_constants : DataW Unit) = .agg (kl.map fun x => .lit (.int .u32 (x.toNat : Int))) := by rfl
set_option maxRecDepth 100000 in
theorem ks_of_laid {W : World} (h : laidMetH Tryd.prog laidK W) : KS W := by
  rw [MakeChecks.laidMetH_plain _ _ _ (by kernel_rfl)] at h
  obtain ⟨ps, ⟨g, t, cs, f, p, q, hg, ht, hv, hd, _, _⟩, _⟩ := h
  obtain rfl := Option.some.inj (gK.symm.trans hg)
  obtain rfl := Option.some.inj (tK.symm.trans ht)
  obtain ⟨xs, m, rfl, hx, hl, hn, hel⟩ := DataW.trod_array Tryd.underlying114 hd
  rw [laidK_kl] at hx
  simp only [Prod.mk.injEq, DataW.agg.injEq] at hx
  intro j v hj
  have hj64 : j < 64 := by
    have := (List.getElem?_eq_some_iff.1 hj).1
    simpa [len_wvs, kl] using this
  have hxj : j < xs.length := by omega
  have he := hel j hj64
  rw [cellsK, Nat.mul_one, List.getElem?_eq_getElem hxj] at he
  obtain ⟨n, e1, e2, _⟩ := DataW.trod_int Tryd.underlying95 he
  obtain ⟨x, hxk⟩ : ∃ x, kl[j]? = some x := ⟨_, List.getElem?_eq_getElem (by simpa [kl] using hj64)⟩
  have h3 := congrArg (fun l => l[j]?) hx.1
  simp only [List.getElem?_map, hxk, List.getElem?_eq_getElem hxj, Option.map_some, e2] at h3
  have hnx : n = (x.toNat : Int) := by simpa using h3.symm
  have hvx : v = u32V x := by
    have := wvs_at kl j x hxk
    rw [this] at hj
    injection hj with hj
    exact hj.symm
  have hc := World.var?_cell hg hv j
  rw [Nat.zero_add, hc, hvx]
  have h1 : (cs.toList.drop j)[0]? = some (.int .u32 n) := by
    have := congrArg (fun l => l[0]?) e1
    simp only [List.getElem?_take, Nat.lt_one_iff, if_true] at this
    simpa using this
  rw [List.getElem?_drop] at h1
  rw [hnx] at h1
  simpa [u32V] using h1
set_option maxRecDepth 100000 in
theorem door_met (os : Os) (args : Array Value) : laidMetH Tryd.prog laidK ((World.doorLaid Tryd.prog 400 os).forCall (fun _ _ => 0) ⟨#[], args, []⟩).memory :=
  laidMetH_of_parts3 (fuel := 8) (laidMet_of_run' 8 (by kernel_rfl) (by kernel_rfl)) (by kernel_rfl) (by kernel_rfl)
end Go.Proofs.YtnhhbbjkeekneaaDoor
/- F2: opening arguments that are texts of texts, and digests. No project text but the type of texts' lists. -/
namespace Go.V
open Go.ChangeShapes Go.WideShapes Go.ChangeAt Go.RowKit

theorem row_bys {W : World} {A : Option Addr} {L C : Nat} {zs : List Int} (hl : L ≤ C) (hm : C ≤ maxLen) (hz : zs.length = C) (hwz : ∀ z ∈ zs, (Lit.int .u8 z).wf = true) (h0 : A = none → C = 0)
    (hc : ∀ a', A = some a' → ∀ c, c < C → W.cell? (a'.add c) = some (.int .u8 (zs.getD c 0))) : Rd W (fun _ => True) (.slice A L C) (bys ((zs.take L).map fun z => UInt8.ofNat z.toNat)) := by
  have hlen : ((zs.take L).map fun z => UInt8.ofNat z.toNat).length = L := by simp; omega
  have hmap : ∀ z ∈ zs, ((UInt8.ofNat z.toNat).toNat : Int) = z := by
    intro z hzm
    have := u8_of_wf (hwz z hzm)
    rw [UInt8.toNat_ofNat', Nat.mod_eq_of_lt (by omega)]
    omega
  unfold bys Rd
  refine ⟨A, C, by rw [hlen], by omega, hm, fun hn => by rw [List.eq_nil_of_length_eq_zero hn]; rfl, fun hne => ?_⟩
  have hpos : 0 < L := by
    rcases Nat.eq_zero_or_pos L with h | h
    · subst h; exact absurd (by simp) hne
    · exact h
  cases A with
  | none => have := h0 rfl; omega
  | some x =>
    have hx0 : x.spot = none := by
      have := spot_none (hc x rfl 0 (by omega))
      simpa [Addr.add] using this
    obtain ⟨g, off, sp⟩ := x
    simp only at hx0
    subst hx0
    refine ⟨g, off, rfl, trivial, RdC.of_bytes fun j u hu => ?_⟩
    have hj : j < L := by
      have := (List.getElem?_eq_some_iff.1 hu).1
      simp [bvs] at this
      omega
    have hc1 := hc _ rfl j (by omega)
    rw [add_mk] at hc1
    rw [hc1]
    have hjz : j < zs.length := by omega
    simp only [bvs, List.map_map] at hu
    rw [List.getElem?_map] at hu
    have e1 : (zs.take L)[j]? = some zs[j] := by rw [List.getElem?_take, if_pos hj, List.getElem?_eq_getElem hjz]
    rw [e1] at hu
    simp only [Option.map_some, Function.comp] at hu
    injection hu with hu
    rw [← hu]
    unfold byteV
    rw [hmap zs[j] (List.getElem_mem hjz)]
    simp [List.getD, List.getElem?_eq_getElem hjz]

/-- a cell that is a slice of slices of bytes -/
theorem open_txc {H : Type} {enc : TypeId × Value → H} {P : Program} {W : World} {t e q : TypeId} (ht : P.underlying t = some (.slice e)) (he : P.underlying e = some (.slice q)) (hq : P.underlying q = some (.int .u8)) (ce : P.cellsOf e = 1) (cq : P.cellsOf q = 1)
    {fuel : Nat} {v : Value} {y : DataW H × List MemPlace} (hf : DataW.trod enc P W 0 (fun _ => true) true fuel t [v] = some y) : ∃ ts, Rd W (fun _ => True) v (tx ts) := by
  rcases Go.Deep.open_int_rows ht he hq ce cq hf with ⟨hcs, _⟩ | ⟨x, len, cap, A, L, C, Z, hcs, _, hl, hm, _, hrow⟩
  · injection hcs with hcs
    subst hcs
    refine ⟨[], ?_⟩
    unfold tx Rd
    exact ⟨none, 0, rfl, Nat.le_refl _, by simp [maxLen], fun _ => rfl, fun h => absurd rfl h⟩
  · injection hcs with hcs
    subst hcs
    refine ⟨(List.range len).map fun r => ((Z r).take (L r)).map fun z => UInt8.ofNat z.toNat, ?_⟩
    unfold tx Rd
    refine ⟨some x, cap, by simp, by simpa using hl, hm, fun h0 => by rw [List.eq_nil_of_length_eq_zero (by simpa using h0 : (List.range len).length = 0)]; rfl, fun hne => ?_⟩
    have hpos : 0 < len := by
      rcases Nat.eq_zero_or_pos len with h0 | h0
      · subst h0; exact absurd (by simp) hne
      · exact h0
    have hx0 : x.spot = none := by
      have := spot_none (hrow 0 (by omega)).1
      simpa [Addr.add] using this
    obtain ⟨g, off, sp⟩ := x
    simp only at hx0
    subst hx0
    refine ⟨g, off, rfl, trivial, RdC.ofAt fun i d hd => ?_⟩
    rw [List.getElem?_map, List.getElem?_map] at hd
    have hi : i < len := by
      rcases Nat.lt_or_ge i len with hi | hi
      · exact hi
      · rw [List.getElem?_eq_none (by simpa using hi)] at hd; cases hd
    rw [List.getElem?_range hi] at hd
    simp only [Option.map_some] at hd
    injection hd with hd
    subst hd
    obtain ⟨h1, h2, h3, h4, h5, h6, h7⟩ := hrow i (by omega)
    rw [add_mk] at h1
    exact ⟨_, h1, row_bys h2 h3 h4 h5 h6 (fun a' ha => (h7 a' ha).2)⟩
/-- an argument that is a slice of slices of bytes -/
theorem open_tx {H : Type} {enc : TypeId × Value → H} {P : Program} {W : World} {base : Nat} {t e q : TypeId} (ht : P.underlying t = some (.slice e)) (he : P.underlying e = some (.slice q)) (hq : P.underlying q = some (.int .u8)) (ce : P.cellsOf e = 1) (cq : P.cellsOf q = 1)
    {v : Value} {d : DataW H} {p : List MemPlace} (hv : Value.okWide P W .any base t v) (h : DataW.Trod enc P W 0 (fun _ => true) true t v d p) : ∃ ts, Rd W (fun _ => True) v (tx ts) := by
  obtain ⟨a, len, cap, rfl⟩ := okWide_slice ht hv
  obtain ⟨fuel, hf⟩ := h
  exact open_txc ht he hq ce cq hf

end Go.V
/- FW: opening arguments that are lists of structs, or arrays of them, whatever the struct. No project text. -/
namespace Go.V
open Go.ChangeShapes Go.WideShapes Go.ChangeAt Go.RowKit Go.Joins Go.Deep
variable {α : Type} {k : Nat}
end Go.V
/- QG: layer 7, pure: what any bytes tell as a request, or as a batch; what is said of signatures. No project text. -/
namespace Go.Proofs.YtnhhbbjkeekneaaDoor
open Go.RowKit Go.V
/-- a digest of 32 bytes -/
def Hx : Type := { h : List UInt8 // h.length = 32 }
end Go.Proofs.YtnhhbbjkeekneaaDoor
/- XF: opening arguments of layer 19: what is asked (a view, a slot, a regency, roots), an int8. -/
namespace Go.Proofs.YtnhhbbjkeekneaaDoor
open Go.ChangeShapes Go.WideShapes Go.ChangeAt Go.RowKit Go.Joins Go.Deep Go.V
theorem i8_of_wf {n : Int} (h : (Lit.int .i8 n).wf = true) : -128 ≤ n ∧ n ≤ 127 := by
  simp [Lit.wf, IntKind.min, IntKind.max, IntKind.signed, IntKind.bits] at h
  omega
end Go.Proofs.YtnhhbbjkeekneaaDoor
