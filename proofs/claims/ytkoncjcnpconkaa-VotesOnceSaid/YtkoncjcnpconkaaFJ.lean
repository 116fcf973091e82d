/- FJ: several texts in one (F F2 FJ). -/
import Derived.Test.YtkoncjcnpconkaaV
import Derived.OpenShut
import Derived.ChangeOld
import Derived.ShutString
import Derived.Test.YtkoncjcnpconkaaVA
import Derived.Deep.Matrix
import Derived.Test.YtkoncjcnpconkaaJ0
import Derived.Lib.SmallJoins
/- F: opening the arguments of a law to what this seat's words say of them. No project text. -/
namespace Go.V
open Go.ChangeShapes Go.WideShapes Go.ChangeAt Go.RowKit

theorem u8_of_wf {n : Int} (h : (Lit.int .u8 n).wf = true) : 0 ≤ n ∧ n < 256 := by
  simp [Lit.wf, IntKind.min, IntKind.max, IntKind.signed, IntKind.bits] at h
  omega
theorem u8_is {n : Int} (h : 0 ≤ n ∧ n < 256) : ∃ y : UInt8, n = (y.toNat : Int) :=
  ⟨UInt8.ofNat n.toNat, by rw [UInt8.toNat_ofNat', Nat.mod_eq_of_lt (by omega)]; omega⟩
theorem u64_of_wf {n : Int} (h : (Lit.int .u64 n).wf = true) : ∃ m : Nat, n = (m : Int) ∧ m < 18446744073709551616 := by
  simp [Lit.wf, IntKind.min, IntKind.max, IntKind.signed, IntKind.bits] at h
  exact ⟨n.toNat, by omega, by omega⟩
theorem i64_of_wf {n : Int} (h : (Lit.int .i64 n).wf = true) : -9223372036854775808 ≤ n ∧ n ≤ 9223372036854775807 := by
  simp [Lit.wf, IntKind.min, IntKind.max, IntKind.signed, IntKind.bits] at h
  omega

theorem u16_of_wf {n : Int} (h : (Lit.int .u16 n).wf = true) : ∃ m : Nat, n = (m : Int) ∧ m < 65536 := by
  simp [Lit.wf, IntKind.min, IntKind.max, IntKind.signed, IntKind.bits] at h
  exact ⟨n.toNat, by omega, by omega⟩
/-- a cell that is a slice of bytes -/
theorem open_bysc {H : Type} {enc : TypeId × Value → H} {P : Program} {W : World} {t e : TypeId} (ht : P.underlying t = some (.slice e)) (he : P.underlying e = some (.int .u8)) (hc : P.cellsOf e = 1)
    {fuel : Nat} {v : Value} {y : DataW H × List MemPlace} (hf : DataW.trod enc P W 0 (fun _ => true) true fuel t [v] = some y) : ∃ bs, Rd W (fun _ => True) v (bys bs) := by
  rcases open_ints ht he hc hf with ⟨hcs, _⟩ | ⟨x, len, cap, zs, hcs, _, hl, hm, hz, _, hcell, hwz⟩
  · injection hcs with hcs
    subst hcs
    refine ⟨[], ?_⟩
    unfold bys Rd
    exact ⟨none, 0, rfl, Nat.le_refl _, by simp [maxLen], fun _ => rfl, fun h => absurd rfl h⟩
  · injection hcs with hcs
    subst hcs
    have hz' : zs.length = cap := by simpa using hz
    have hmap : ∀ z ∈ zs.take len, ((UInt8.ofNat z.toNat).toNat : Int) = z := by
      intro z hzm
      have := u8_of_wf (hwz z (List.mem_of_mem_take hzm))
      rw [UInt8.toNat_ofNat', Nat.mod_eq_of_lt (by omega)]
      omega
    refine ⟨(zs.take len).map fun z => UInt8.ofNat z.toNat, ?_⟩
    unfold bys Rd
    have hlen : ((zs.take len).map fun z => UInt8.ofNat z.toNat).length = len := by simp; omega
    refine ⟨some x, cap, by rw [hlen], by omega, hm, fun h0 => by rw [List.eq_nil_of_length_eq_zero h0]; rfl, fun hne => ?_⟩
    have hpos : 0 < len := by
      rcases Nat.eq_zero_or_pos len with h0 | h0
      · subst h0; exact absurd (by simp) hne
      · exact h0
    have hx0 : x.spot = none := by
      have := hcell 0 (by omega)
      unfold World.cell? Addr.add at this
      simp only [if_true] at this
      split at this
      · split at this
        · cases this
        · rename_i hs; simpa using hs
      · cases this
    obtain ⟨g, off, sp⟩ := x
    simp only at hx0
    subst hx0
    refine ⟨g, off, rfl, trivial, RdC.of_bytes fun j u hu => ?_⟩
    have hj : j < len := by
      have := (List.getElem?_eq_some_iff.1 hu).1
      simp [bvs] at this
      omega
    have hc1 := hcell j (by omega)
    rw [add_mk] at hc1
    rw [hc1]
    have hjz : j < zs.length := by omega
    simp only [bvs, List.map_map] at hu
    rw [List.getElem?_map] at hu
    have e1 : (zs.take len)[j]? = some zs[j] := by rw [List.getElem?_take, if_pos hj, List.getElem?_eq_getElem hjz]
    rw [e1] at hu
    simp only [Option.map_some, Function.comp] at hu
    injection hu with hu
    rw [← hu]
    unfold byteV
    rw [hmap zs[j] (by rw [List.mem_iff_getElem?]; exact ⟨j, e1⟩)]
    simp [List.getD, List.getElem?_eq_getElem hjz]
/-- an argument that is a slice of bytes -/
theorem open_bys {H : Type} {enc : TypeId × Value → H} {P : Program} {W : World} {base : Nat} {t e : TypeId} (ht : P.underlying t = some (.slice e)) (he : P.underlying e = some (.int .u8)) (hc : P.cellsOf e = 1)
    {v : Value} {d : DataW H} {p : List MemPlace} (hv : Value.okWide P W .any base t v) (h : DataW.Trod enc P W 0 (fun _ => true) true t v d p) : ∃ bs, Rd W (fun _ => True) v (bys bs) := by
  obtain ⟨a, len, cap, rfl⟩ := okWide_slice ht hv
  obtain ⟨fuel, hf⟩ := h
  exact open_bysc ht he hc hf
theorem spot_none {W : World} {x : Addr} {v : Value} (h : W.cell? x = some v) : x.spot = none := by
  unfold World.cell? at h
  split at h
  · split at h
    · cases h
    · rename_i hs; simpa using hs
  · cases h
end Go.V
/- F2: opening arguments that are texts of texts, and digests. No project text but the type of texts' lists. -/
namespace Go.V
open Go.ChangeShapes Go.WideShapes Go.ChangeAt Go.RowKit

theorem row_bys {W : World} {A : Option Addr} {L C : Nat} {zs : List Int} (hl : L ≤ C) (hm : C ≤ maxLen) (hz : zs.length = C) (hwz : ∀ z ∈ zs, (Lit.int .u8 z).wf = true) (h0 : A = none → C = 0)
    (hc : ∀ a', A = some a' → ∀ c, c < C → W.cell? (a'.add c) = some (.int .u8 (zs.getD c 0))) : Rd W (fun _ => True) (.slice A L C) (bys ((zs.take L).map fun z => UInt8.ofNat z.toNat)) := by
  have hlen : ((zs.take L).map fun z => UInt8.ofNat z.toNat).length = L := by simp; omega
  have hmap : ∀ z ∈ zs, ((UInt8.ofNat z.toNat).toNat : Int) = z := by
    intro z hzm
    have := u8_of_wf (hwz z hzm)
    rw [UInt8.toNat_ofNat', Nat.mod_eq_of_lt (by omega)]
    omega
  unfold bys Rd
  refine ⟨A, C, by rw [hlen], by omega, hm, fun hn => by rw [List.eq_nil_of_length_eq_zero hn]; rfl, fun hne => ?_⟩
  have hpos : 0 < L := by
    rcases Nat.eq_zero_or_pos L with h | h
    · subst h; exact absurd (by simp) hne
    · exact h
  cases A with
  | none => have := h0 rfl; omega
  | some x =>
    have hx0 : x.spot = none := by
      have := spot_none (hc x rfl 0 (by omega))
      simpa [Addr.add] using this
    obtain ⟨g, off, sp⟩ := x
    simp only at hx0
    subst hx0
    refine ⟨g, off, rfl, trivial, RdC.of_bytes fun j u hu => ?_⟩
    have hj : j < L := by
      have := (List.getElem?_eq_some_iff.1 hu).1
      simp [bvs] at this
      omega
    have hc1 := hc _ rfl j (by omega)
    rw [add_mk] at hc1
    rw [hc1]
    have hjz : j < zs.length := by omega
    simp only [bvs, List.map_map] at hu
    rw [List.getElem?_map] at hu
    have e1 : (zs.take L)[j]? = some zs[j] := by rw [List.getElem?_take, if_pos hj, List.getElem?_eq_getElem hjz]
    rw [e1] at hu
    simp only [Option.map_some, Function.comp] at hu
    injection hu with hu
    rw [← hu]
    unfold byteV
    rw [hmap zs[j] (List.getElem_mem hjz)]
    simp [List.getD, List.getElem?_eq_getElem hjz]

/-- a cell that is a slice of slices of bytes -/
theorem open_txc {H : Type} {enc : TypeId × Value → H} {P : Program} {W : World} {t e q : TypeId} (ht : P.underlying t = some (.slice e)) (he : P.underlying e = some (.slice q)) (hq : P.underlying q = some (.int .u8)) (ce : P.cellsOf e = 1) (cq : P.cellsOf q = 1)
    {fuel : Nat} {v : Value} {y : DataW H × List MemPlace} (hf : DataW.trod enc P W 0 (fun _ => true) true fuel t [v] = some y) : ∃ ts, Rd W (fun _ => True) v (tx ts) := by
  rcases Go.Deep.open_int_rows ht he hq ce cq hf with ⟨hcs, _⟩ | ⟨x, len, cap, A, L, C, Z, hcs, _, hl, hm, _, hrow⟩
  · injection hcs with hcs
    subst hcs
    refine ⟨[], ?_⟩
    unfold tx Rd
    exact ⟨none, 0, rfl, Nat.le_refl _, by simp [maxLen], fun _ => rfl, fun h => absurd rfl h⟩
  · injection hcs with hcs
    subst hcs
    refine ⟨(List.range len).map fun r => ((Z r).take (L r)).map fun z => UInt8.ofNat z.toNat, ?_⟩
    unfold tx Rd
    refine ⟨some x, cap, by simp, by simpa using hl, hm, fun h0 => by rw [List.eq_nil_of_length_eq_zero (by simpa using h0 : (List.range len).length = 0)]; rfl, fun hne => ?_⟩
    have hpos : 0 < len := by
      rcases Nat.eq_zero_or_pos len with h0 | h0
      · subst h0; exact absurd (by simp) hne
      · exact h0
    have hx0 : x.spot = none := by
      have := spot_none (hrow 0 (by omega)).1
      simpa [Addr.add] using this
    obtain ⟨g, off, sp⟩ := x
    simp only at hx0
    subst hx0
    refine ⟨g, off, rfl, trivial, RdC.ofAt fun i d hd => ?_⟩
    rw [List.getElem?_map, List.getElem?_map] at hd
    have hi : i < len := by
      rcases Nat.lt_or_ge i len with hi | hi
      · exact hi
      · rw [List.getElem?_eq_none (by simpa using hi)] at hd; cases hd
    rw [List.getElem?_range hi] at hd
    simp only [Option.map_some] at hd
    injection hd with hd
    subst hd
    obtain ⟨h1, h2, h3, h4, h5, h6, h7⟩ := hrow i (by omega)
    rw [add_mk] at h1
    exact ⟨_, h1, row_bys h2 h3 h4 h5 h6 (fun a' ha => (h7 a' ha).2)⟩
/-- an argument that is a slice of slices of bytes -/
theorem open_tx {H : Type} {enc : TypeId × Value → H} {P : Program} {W : World} {base : Nat} {t e q : TypeId} (ht : P.underlying t = some (.slice e)) (he : P.underlying e = some (.slice q)) (hq : P.underlying q = some (.int .u8)) (ce : P.cellsOf e = 1) (cq : P.cellsOf q = 1)
    {v : Value} {d : DataW H} {p : List MemPlace} (hv : Value.okWide P W .any base t v) (h : DataW.Trod enc P W 0 (fun _ => true) true t v d p) : ∃ ts, Rd W (fun _ => True) v (tx ts) := by
  obtain ⟨a, len, cap, rfl⟩ := okWide_slice ht hv
  obtain ⟨fuel, hf⟩ := h
  exact open_txc ht he hq ce cq hf

/-- an argument that is an array of 32 bytes -/
theorem open_hash {H : Type} {enc : TypeId × Value → H} {P : Program} {W : World} {t e : TypeId} (ht : P.underlying t = some (.array 32 e)) (he : P.underlying e = some (.int .u8)) (hc : P.cellsOf e = 1) (hct : P.cellsOf t = 32)
    {v : Value} {d : DataW H} {p : List MemPlace} (h : DataW.Trod enc P W 0 (fun _ => true) true t v d p) : ∃ bs : List UInt8, v = .agg (bvs bs).toArray ∧ bs.length = 32 := by
  obtain ⟨fuel, hf⟩ := h
  obtain ⟨xs, m, rfl, hx, hl, hn, hel⟩ := DataW.trod_array ht hf
  rw [hct] at hl
  have hag : ∃ cs : Array Value, v = .agg cs := by
    cases v <;> first | exact ⟨_, rfl⟩ | (simp [Value.cells] at hl)
  obtain ⟨⟨l⟩, rfl⟩ := hag
  have hl' : l.length = 32 := by simpa [Value.cells] using hl
  have each : ∀ i, i < 32 → ∃ n : Int, l[i]? = some (.int .u8 n) ∧ 0 ≤ n ∧ n < 256 := by
    intro i hi
    have h1 := hel i hi
    rw [hc, Nat.mul_one, List.getElem?_eq_getElem (by omega)] at h1
    obtain ⟨n, e1, _, hw⟩ := DataW.trod_int he h1
    have := congrArg (fun l => l[0]?) e1
    simp only [List.getElem?_take, Nat.lt_one_iff, if_true, List.getElem?_drop] at this
    exact ⟨n, by simpa [Value.cells] using this, u8_of_wf hw⟩
  refine ⟨l.map fun v => match v with | .int _ n => UInt8.ofNat n.toNat | _ => 0, ?_, by simpa using hl'⟩
  congr 1
  apply Array.ext'
  simp only
  apply List.ext_getElem?
  intro i
  rcases Nat.lt_or_ge i 32 with hi | hi
  · obtain ⟨n, h1, h2, h3⟩ := each i hi
    simp only [bvs, List.getElem?_map, h1, Option.map_some]
    unfold byteV
    rw [UInt8.toNat_ofNat', Nat.mod_eq_of_lt (by omega)]
    congr 2
    omega
  · rw [List.getElem?_eq_none (by omega), List.getElem?_eq_none (by simp [bvs]; omega)]
end Go.V
/- FJ: opening an argument that is a vote, or a list of them. -/
namespace Go.V
open Go.ChangeShapes Go.WideShapes Go.ChangeAt Go.RowKit Go.Joins Go.Deep
/-- what is said of the types of a vote -/
structure VtTy (P : Program) (t : TypeId) : Prop where
  it : ∃ f0 f1 f2 f3 f4 f5 f6 : Field, ∃ b e : TypeId, P.underlying t = some (.struct #[f0, f1, f2, f3, f4, f5, f6]) ∧ [f0.offset, f1.offset, f2.offset, f3.offset, f4.offset, f5.offset, f6.offset] = [0, 1, 2, 3, 4, 36, 37] ∧
    [P.cellsOf t, P.cellsOf f0.type, P.cellsOf f1.type, P.cellsOf f2.type, P.cellsOf f3.type, P.cellsOf f4.type, P.cellsOf f5.type, P.cellsOf f6.type] = [38, 1, 1, 1, 1, 32, 1, 1] ∧
    P.underlying f0.type = some (.int .i64) ∧ P.underlying f1.type = some (.int .i64) ∧ P.underlying f2.type = some (.int .i64) ∧ P.underlying f3.type = some (.int .i64) ∧
    P.underlying f4.type = some (.array 32 b) ∧ P.underlying f5.type = some (.slice b) ∧ P.underlying f6.type = some (.slice e) ∧ P.underlying e = some (.slice b) ∧ P.underlying b = some (.int .u8) ∧ P.cellsOf b = 1 ∧ P.cellsOf e = 1
theorem open_vtc {H : Type} {enc : TypeId × Value → H} {P : Program} {W : World} {t : TypeId} (hT : VtTy P t) {fuel : Nat} {cs : List Value} {x : DataW H × List MemPlace} (h : DataW.trod enc P W 0 (fun _ => true) true fuel t cs = some x) :
    ∃ (m : Vt) (ub up : Value), cs = m.l ub up ∧ Rd W (fun _ => True) ub (bys m.b) ∧ Rd W (fun _ => True) up (tx m.ps) ∧ VtIn m := by
  obtain ⟨f0, f1, f2, f3, f4, f5, f6, b, e, ht, hof, hcl, h0, h1, h2, h3, h5, h6, h7, he, hb, hcb, hce⟩ := hT.it
  obtain ⟨xs, n, _, _, hl, hlen, hf⟩ := DataW.trod_struct ht h
  simp only [List.cons.injEq, and_true] at hof hcl
  obtain ⟨o0, o1, o2, o3, o5, o6, o7⟩ := hof
  obtain ⟨k, k0, k1, k2, k3, k5, k6, k7⟩ := hcl
  have r0 := hf 0 f0 rfl
  have r1 := hf 1 f1 rfl
  have r2 := hf 2 f2 rfl
  have r3 := hf 3 f3 rfl
  have r5 := hf 4 f4 rfl
  have r6 := hf 5 f5 rfl
  have r7 := hf 6 f6 rfl
  rw [k] at hl
  rw [o0, k0] at r0
  rw [o1, k1] at r1
  rw [o2, k2] at r2
  rw [o3, k3] at r3
  rw [o5, k5] at r5
  rw [o6, k6] at r6
  rw [o7, k7] at r7
  have hxl : xs.length = 7 := hlen
  match xs, hxl with
  | [y0, y1, y2, y3, y5, y6, y7], _ =>
    match cs, hl with
    | c0 :: c1 :: c2 :: c3 :: rest, hl =>
      have hrl : rest.length = 34 := by simpa using hl
      obtain ⟨K, e0, _, w0⟩ := DataW.trod_int h0 r0
      obtain ⟨V, e2, _, w2⟩ := DataW.trod_int h1 r1
      obtain ⟨R, e3, _, w3⟩ := DataW.trod_int h2 r2
      obtain ⟨S, e4, _, w4⟩ := DataW.trod_int h3 r3
      simp only [List.drop_zero, List.drop_succ_cons, List.take_succ_cons, List.take_zero, List.cons.injEq, and_true] at e0 e2 e3 e4 r5 r6 r7
      obtain ⟨hs, hv, hhl⟩ := open_hash h5 hb hcb k5 (v := .agg (rest.take 32).toArray) ⟨n, r5⟩
      have hv' : rest.take 32 = bvs hs := by
        injection hv with hv
        have := congrArg Array.toList hv
        simpa using this
      have hr2 : ∃ u0 u1, rest.drop 32 = [u0, u1] := by
        have hd : (rest.drop 32).length = 2 := by rw [List.length_drop]; omega
        match hq : rest.drop 32, hd with
        | [u0, u1], _ => exact ⟨u0, u1, rfl⟩
      obtain ⟨u0, u1, hu⟩ := hr2
      have hu33 : rest.drop 33 = [u1] := by rw [show 33 = 32 + 1 from rfl, ← List.drop_drop, hu]; rfl
      rw [hu] at r6
      rw [hu33] at r7
      obtain ⟨bs, hR⟩ := open_bysc h6 hb hcb (v := u0) r6
      obtain ⟨ts, hX⟩ := open_txc h7 he hb hce hcb (v := u1) r7
      have hrest : rest = bvs hs ++ [u0, u1] := by rw [← hv', ← hu, List.take_append_drop]
      subst e0 e2 e3 e4 hrest
      exact ⟨⟨K, V, R, S, hs, bs, ts, hhl⟩, u0, u1, rfl, hR, hX, ⟨i64_of_wf w0, i64_of_wf w2, i64_of_wf w3, i64_of_wf w4⟩⟩
/-- an argument that is a vote -/
theorem open_vote {H : Type} {enc : TypeId × Value → H} {P : Program} {W : World} {base : Nat} {t : TypeId} (hT : VtTy P t) {v : Value} {d : DataW H} {p : List MemPlace} (hv : Value.okWide P W .any base t v) (h : DataW.Trod enc P W 0 (fun _ => true) true t v d p) :
    ∃ (m : Vt) (ub up : Value), v = m.val ub up ∧ Rd W (fun _ => True) ub (bys m.b) ∧ Rd W (fun _ => True) up (tx m.ps) ∧ VtIn m := by
  obtain ⟨f0, f1, f2, f3, f4, f5, f6, b, e, ht, _⟩ := hT.it
  obtain ⟨cs, rfl, _⟩ := okWide_struct ht hv
  obtain ⟨fuel, hf⟩ := h
  obtain ⟨m, ub, up, hc, h1, h2, h3⟩ := open_vtc hT hf
  obtain ⟨cs⟩ := cs
  have hc : cs = m.l ub up := hc
  subst hc
  exact ⟨m, ub, up, rfl, h1, h2, h3⟩
theorem VtTy.cells {P : Program} {t : TypeId} (hT : VtTy P t) : P.cellsOf t = 38 := by
  obtain ⟨f0, f1, f2, f3, f4, f5, f6, b, e, ht, _, hcl, _⟩ := hT.it
  simp only [List.cons.injEq, and_true] at hcl
  exact hcl.1
/-- an argument that is a list of votes -/
theorem open_votes {H : Type} {enc : TypeId × Value → H} {P : Program} {W : World} {base : Nat} {t e : TypeId} (ht : P.underlying t = some (.slice e)) (hT : VtTy P e) {v : Value} {d : DataW H} {p : List MemPlace} (hv : Value.okWide P W .any base t v) (h : DataW.Trod enc P W 0 (fun _ => true) true t v d p) :
    ∃ l : List Vt, Rd W (fun _ => True) v (wds vtD l) ∧ ∀ a ∈ l, VtIn a := by
  obtain ⟨a, len, cap, rfl⟩ := okWide_slice ht hv
  obtain ⟨fuel, hf⟩ := h
  rcases open_slice ht hf with ⟨hcs, _⟩ | ⟨x, len', cap', m, n, D, Pl, hcs, _, hl, hm, hmm, _, hi⟩
  · simp [Value.cells] at hcs
    obtain ⟨rfl, rfl, rfl⟩ := hcs
    exact ⟨[], wds_nil, fun r h => by simp at h⟩
  · simp [Value.cells] at hcs
    obtain ⟨rfl, rfl, rfl⟩ := hcs
    simp at hmm
    subst hmm
    have hall : ∀ i, ∃ r : Vt, i < len → ∃ ub up, (∀ j, j < 38 → W.cell? ((x.add (i * 38)).add j) = (r.l ub up)[j]?) ∧ Rd W (fun _ => True) ub (bys r.b) ∧ Rd W (fun _ => True) up (tx r.ps) ∧ VtIn r := fun i => by
      by_cases hlt : i < len
      · obtain ⟨cs', hc, hd⟩ := hi i (by omega)
        rw [hT.cells] at hc
        obtain ⟨_, _, hat⟩ := World.cells?_some hc
        obtain ⟨r, ub, up, rfl, h1, h2, h3⟩ := open_vtc hT hd
        exact ⟨r, fun _ => ⟨ub, up, hat, h1, h2, h3⟩⟩
      · exact ⟨zV, fun h => absurd h hlt⟩
    obtain ⟨f, hf⟩ := Classical.skolem.1 hall
    refine ⟨(List.range len).map f, ?_, fun r hr => ?_⟩
    · unfold wds Rd
      have hll : ((List.range len).map f).length = len := by simp
      refine ⟨some x, m, by rw [hll], by rw [hll]; exact hl, hm, fun h => by rw [List.eq_nil_of_length_eq_zero h]; rfl, fun hne => ?_⟩
      have hpos : 0 < len := by
        rcases Nat.eq_zero_or_pos len with h0 | h0
        · subst h0; exact absurd (by simp) hne
        · exact h0
      have hx0 : x.spot = none := by
        obtain ⟨u, u2, hc, _⟩ := hf 0 hpos
        have := spot_none ((hc 0 (by omega)).trans (by rfl : ((f 0).l u u2)[0]? = some (.int .i64 (f 0).k)))
        simpa [Addr.add] using this
      obtain ⟨g, off, sp⟩ := x
      simp only at hx0
      subst hx0
      refine ⟨g, off, rfl, trivial, wdC_of vtD _ off (fun i r hr => ?_)⟩
      have hil : i < len := by have := (List.getElem?_eq_some_iff.1 hr).1; simpa using this
      have hfi : r = f i := by
        rw [List.getElem?_map, List.getElem?_range hil] at hr
        simpa using hr.symm
      subst hfi
      obtain ⟨u, u2, hc, hu, hu2, _⟩ := hf i hil
      have hm := vt_mk hu hu2
      refine wdC_in _ ((f i).l u u2) _ (by rw [vtD.len, len_vt]) (fun j w hw => ?_) hm.at_
      have hj : j < 38 := by have := (List.getElem?_eq_some_iff.1 hw).1; rw [len_vt] at this; exact this
      have := hc j hj
      rw [add_mk, add_mk] at this
      rw [this]
      exact hw
    · obtain ⟨i, hi', rfl⟩ := List.mem_map.1 hr
      obtain ⟨_, _, _, _, _, h2⟩ := hf i (by simpa using hi')
      exact h2
end Go.V
namespace Go.Proofs.Ytkoncjcnpconkaa
open Go.RowKit Go.V
theorem vtTy : VtTy Try.prog 27 := ⟨⟨_, _, _, _, _, _, _, _, _, Try.underlying27, by kernel_rfl, by kernel_rfl, Try.underlying3, Try.underlying3, Try.underlying3, Try.underlying3, Try.underlying23, Try.underlying24, Try.underlying25, Try.underlying24, Try.underlying5, by kernel_rfl, by kernel_rfl⟩⟩
end Go.Proofs.Ytkoncjcnpconkaa
