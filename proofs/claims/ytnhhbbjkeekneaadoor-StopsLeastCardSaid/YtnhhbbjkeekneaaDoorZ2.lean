/- Z2: several texts in one (XC Cr I5 Cg Cs W4 Ct Cu Cw F Cx Cy Cz Ck Z2). -/
import Derived.Test.YtnhhbbjkeekneaaDoorXl
import Derived.Test.YtnhhbbjkeekneaaDoorXm
import Derived.Test.YtnhhbbjkeekneaaDoorCo
import Derived.Test.YtnhhbbjkeekneaaDoorI4
import Derived.Test.YtnhhbbjkeekneaaDoorOT
import Derived.Test.YtnhhbbjkeekneaaDoorS8
import Derived.Deep.DeepCutAuto
import Derived.Deep.RegionHeld3
import Derived.Test.YtnhhbbjkeekneaaDoorT5
import Derived.Test.YtnhhbbjkeekneaaDoorRB
import Derived.Test.YtnhhbbjkeekneaaDoorCp
import Derived.Test.YtnhhbbjkeekneaaDoorW2
import Derived.Test.YtnhhbbjkeekneaaDoorV
import Derived.OpenShut
import Derived.ChangeOld
import Derived.ShutString
import Derived.Test.YtnhhbbjkeekneaaDoorS2
import Derived.Test.YtnhhbbjkeekneaaDoorZC
/- XC: layer 19: the contracts of package stops but Valid and Choose, all in one place: greatest, wanted, Some, Enough, Count and nil (Xl), New, Take (Xm). -/
namespace Go.Proofs.YtnhhbbjkeekneaaDoor
open Go.RowKit Go.V
theorem scount19_3 (v : Value) (M N : Nat → Prop) (ks : List (List UInt8)) (V : Vc) (W : List Nat) (w : World) (h : SX w v M N ks V W) :
    Calls Tryd.prog 12 #[v, .int .i64 3] w fun e w' => e = .returned (.int .i64 (cntW W 3 : Int)) ∧ Below w.heap.size w w' := scount19_any v M N ks V W 3 w (by omega) h
end Go.Proofs.YtnhhbbjkeekneaaDoor
/- Cr: layer 17, the document's side: what ref08.Get and ref09.Open answer (a message and an error, in one struct). -/
namespace Go.Proofs.YtnhhbbjkeekneaaDoor
open Go.RowKit Go.V
end Go.Proofs.YtnhhbbjkeekneaaDoor
/- I5: layer 1: the document's reading of a text. -/
namespace Go.Proofs.YtnhhbbjkeekneaaDoor
open Go.RowKit Go.V
end Go.Proofs.YtnhhbbjkeekneaaDoor
/- Cg: layer 17, the document's side: contract of ref08.Get over any bytes. -/
namespace Go.V
open Go.RowKit
end Go.V
namespace Go.Proofs.YtnhhbbjkeekneaaDoor
open Go.RowKit Go.V
theorem fill_set (l : List UInt8) (i n : Nat) (hi : i < n) (hl : n ≤ l.length) : (l.take i ++ List.replicate (n - i) 0).set i (l[i]'(by omega)) = l.take (i + 1) ++ List.replicate (n - (i + 1)) 0 := by
  rw [List.set_append_right _ _ (by rw [List.length_take]; omega), List.length_take, show i - min i l.length = 0 from by omega, show n - i = (n - (i + 1)) + 1 from by omega, List.replicate_succ, List.set_cons_zero, List.take_succ_eq_append_getElem (by omega), List.append_assoc]
  rfl
end Go.Proofs.YtnhhbbjkeekneaaDoor
/- Cs: layer 17, the document's side: contract of ref09.Open over that of ref08.Get. -/
namespace Go.Proofs.YtnhhbbjkeekneaaDoor
open Go.RowKit Go.V
end Go.Proofs.YtnhhbbjkeekneaaDoor
/- W4: layer 6: contracts of the document's answers: members, how many must agree, who leads. -/
namespace Go.Proofs.YtnhhbbjkeekneaaDoor
open Go.RowKit Go.V
end Go.Proofs.YtnhhbbjkeekneaaDoor
/- Ct: layer 17, the document's side: contract of ref09.OpenOf over that of ref09.Open. -/
namespace Go.Proofs.YtnhhbbjkeekneaaDoor
open Go.RowKit Go.V
end Go.Proofs.YtnhhbbjkeekneaaDoor
/- Cu: layer 17, the document's side: contract of ref17.Counts. -/
namespace Go.Proofs.YtnhhbbjkeekneaaDoor
open Go.RowKit Go.V
end Go.Proofs.YtnhhbbjkeekneaaDoor
/- Cw: layer 17, the document's side: contract of ref17.Who. -/
namespace Go.Proofs.YtnhhbbjkeekneaaDoor
open Go.RowKit Go.V
end Go.Proofs.YtnhhbbjkeekneaaDoor
/- F: opening the arguments of a law to what this seat's words say of them. No project text. -/
namespace Go.V
open Go.ChangeShapes Go.WideShapes Go.ChangeAt Go.RowKit

theorem u8_of_wf {n : Int} (h : (Lit.int .u8 n).wf = true) : 0 ≤ n ∧ n < 256 := by
  simp [Lit.wf, IntKind.min, IntKind.max, IntKind.signed, IntKind.bits] at h
  omega
theorem i64_of_wf {n : Int} (h : (Lit.int .i64 n).wf = true) : -9223372036854775808 ≤ n ∧ n ≤ 9223372036854775807 := by
  simp [Lit.wf, IntKind.min, IntKind.max, IntKind.signed, IntKind.bits] at h
  omega

theorem u16_of_wf {n : Int} (h : (Lit.int .u16 n).wf = true) : ∃ m : Nat, n = (m : Int) ∧ m < 65536 := by
  simp [Lit.wf, IntKind.min, IntKind.max, IntKind.signed, IntKind.bits] at h
  exact ⟨n.toNat, by omega, by omega⟩
/-- a cell that is a slice of bytes -/
theorem open_bysc {H : Type} {enc : TypeId × Value → H} {P : Program} {W : World} {t e : TypeId} (ht : P.underlying t = some (.slice e)) (he : P.underlying e = some (.int .u8)) (hc : P.cellsOf e = 1)
    {fuel : Nat} {v : Value} {y : DataW H × List MemPlace} (hf : DataW.trod enc P W 0 (fun _ => true) true fuel t [v] = some y) : ∃ bs, Rd W (fun _ => True) v (bys bs) := by
  rcases open_ints ht he hc hf with ⟨hcs, _⟩ | ⟨x, len, cap, zs, hcs, _, hl, hm, hz, _, hcell, hwz⟩
  · injection hcs with hcs
    subst hcs
    refine ⟨[], ?_⟩
    unfold bys Rd
    exact ⟨none, 0, rfl, Nat.le_refl _, by simp [maxLen], fun _ => rfl, fun h => absurd rfl h⟩
  · injection hcs with hcs
    subst hcs
    have hz' : zs.length = cap := by simpa using hz
    have hmap : ∀ z ∈ zs.take len, ((UInt8.ofNat z.toNat).toNat : Int) = z := by
      intro z hzm
      have := u8_of_wf (hwz z (List.mem_of_mem_take hzm))
      rw [UInt8.toNat_ofNat', Nat.mod_eq_of_lt (by omega)]
      omega
    refine ⟨(zs.take len).map fun z => UInt8.ofNat z.toNat, ?_⟩
    unfold bys Rd
    have hlen : ((zs.take len).map fun z => UInt8.ofNat z.toNat).length = len := by simp; omega
    refine ⟨some x, cap, by rw [hlen], by omega, hm, fun h0 => by rw [List.eq_nil_of_length_eq_zero h0]; rfl, fun hne => ?_⟩
    have hpos : 0 < len := by
      rcases Nat.eq_zero_or_pos len with h0 | h0
      · subst h0; exact absurd (by simp) hne
      · exact h0
    have hx0 : x.spot = none := by
      have := hcell 0 (by omega)
      unfold World.cell? Addr.add at this
      simp only [if_true] at this
      split at this
      · split at this
        · cases this
        · rename_i hs; simpa using hs
      · cases this
    obtain ⟨g, off, sp⟩ := x
    simp only at hx0
    subst hx0
    refine ⟨g, off, rfl, trivial, RdC.of_bytes fun j u hu => ?_⟩
    have hj : j < len := by
      have := (List.getElem?_eq_some_iff.1 hu).1
      simp [bvs] at this
      omega
    have hc1 := hcell j (by omega)
    rw [add_mk] at hc1
    rw [hc1]
    have hjz : j < zs.length := by omega
    simp only [bvs, List.map_map] at hu
    rw [List.getElem?_map] at hu
    have e1 : (zs.take len)[j]? = some zs[j] := by rw [List.getElem?_take, if_pos hj, List.getElem?_eq_getElem hjz]
    rw [e1] at hu
    simp only [Option.map_some, Function.comp] at hu
    injection hu with hu
    rw [← hu]
    unfold byteV
    rw [hmap zs[j] (by rw [List.mem_iff_getElem?]; exact ⟨j, e1⟩)]
    simp [List.getD, List.getElem?_eq_getElem hjz]
/-- an argument that is a slice of bytes -/
theorem open_bys {H : Type} {enc : TypeId × Value → H} {P : Program} {W : World} {base : Nat} {t e : TypeId} (ht : P.underlying t = some (.slice e)) (he : P.underlying e = some (.int .u8)) (hc : P.cellsOf e = 1)
    {v : Value} {d : DataW H} {p : List MemPlace} (hv : Value.okWide P W .any base t v) (h : DataW.Trod enc P W 0 (fun _ => true) true t v d p) : ∃ bs, Rd W (fun _ => True) v (bys bs) := by
  obtain ⟨a, len, cap, rfl⟩ := okWide_slice ht hv
  obtain ⟨fuel, hf⟩ := h
  exact open_bysc ht he hc hf
theorem spot_none {W : World} {x : Addr} {v : Value} (h : W.cell? x = some v) : x.spot = none := by
  unfold World.cell? at h
  split at h
  · split at h
    · cases h
    · rename_i hs; simpa using hs
  · cases h
end Go.V
/- Cx: layer 17, the document's side: contract of ref17.Pick. -/
namespace Go.Proofs.YtnhhbbjkeekneaaDoor
open Go.RowKit Go.V
end Go.Proofs.YtnhhbbjkeekneaaDoor
/- Cy: layer 17, the document's side: contracts of ref17.Written, Decided. -/
namespace Go.Proofs.YtnhhbbjkeekneaaDoor
open Go.RowKit Go.V
end Go.Proofs.YtnhhbbjkeekneaaDoor
/- Cz: layer 17, the document's side: contract of ref17.Decided. -/
namespace Go.Proofs.YtnhhbbjkeekneaaDoor
open Go.RowKit Go.V
end Go.Proofs.YtnhhbbjkeekneaaDoor
/- Ck: layers 17 and 18: the laws' table of keys, as lists. -/
namespace Go.Proofs.YtnhhbbjkeekneaaDoor
open Go.RowKit Go.V
def kU (i : Nat) : List (List UInt8) := (List.range i).map (fun j => [UInt8.ofNat j])
def ks17 : List (List UInt8) := kU 16
theorem kU_next (i : Nat) : kU (i + 1) = kU i ++ [[UInt8.ofNat i]] := by
  unfold kU
  rw [List.range_succ, List.map_append]
  rfl
theorem kU_len (i : Nat) : (kU i).length = i := by unfold kU; simp
theorem ks17_sm : KsSm ks17 := by
  refine ⟨by unfold ks17; rw [kU_len]; omega, fun k hk => ?_⟩
  unfold ks17 kU at hk
  obtain ⟨j, _, rfl⟩ := List.mem_map.1 hk
  show 1 ≤ 1000000
  omega
def zKs : List Value := [.slice none 0 0, .slice none 0 0]
theorem zeroKs17 : (Tryd.prog.info? 33).map (·.zero) = some (some (.agg zKs.toArray)) := by kernel_rfl
end Go.Proofs.YtnhhbbjkeekneaaDoor
/- Z2: layer 9: wakes. -/
namespace Go.V
open Go.RowKit
end Go.V
namespace Go.Proofs.YtnhhbbjkeekneaaDoor
open Go.RowKit Go.V
theorem errS_M {ks : List (List UInt8)} {m : Mg} (hh : m.h.length = 32) (hlo : longB m = false) : errS ks m = if errM m = 0 then (if (ks.length : Int) ≤ m.f then 6 else 0) else errM m := by
  unfold errS; rw [errG_M hh hlo]
end Go.Proofs.YtnhhbbjkeekneaaDoor
