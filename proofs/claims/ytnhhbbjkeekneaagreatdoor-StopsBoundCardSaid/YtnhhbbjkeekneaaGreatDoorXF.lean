/- XF: several texts in one (SD F2 FW XF). -/
import Derived.Test.YtnhhbbjkeekneaaGreatDoorSL
import Derived.Test.YtnhhbbjkeekneaaGreatDoorCB
import Derived.ProofKit
import Derived.LaidMore
import Derived.OpenShut
import Derived.Stop.Joined
import Derived.Test.YtnhhbbjkeekneaaGreatDoorVA
import Derived.Deep.Matrix
import Derived.Test.YtnhhbbjkeekneaaGreatDoorLW
import Derived.Lib.SmallJoins
import Derived.Deep.Slices
import Derived.ChangeSame
import Derived.Test.YtnhhbbjkeekneaaGreatDoorQG
import Derived.Test.YtnhhbbjkeekneaaGreatDoorVE
/- SD: what the listed variable gives the walks; a world that meets it. -/
namespace Go.Proofs.YtnhhbbjkeekneaaGreatDoor
open Go.ChangeShapes Go.WideShapes Go.ChangeAt Go.RowKit Go.V

theorem own : ownKnob Tryz.prog.godebug = none := by kernel_rfl
theorem laidOut : laidOutB Tryz.prog = true := by kernel_rfl
theorem gK : Tryz.prog.globalNamed "consistory/sha.constants" = some 0 := by kernel_rfl
theorem tK : (Tryz.prog.globals[(0 : Nat)]?).map (·.type) = some 194 := by kernel_rfl
theorem cellsK : Tryz.prog.cellsOf 130 = 1 := by kernel_rfl
def laidK : List (String × DataW Unit) := [("consistory/sha.constants", Rows.laid_consistory_sha_constants)]
theorem laidK_kl : (Rows.laid_consistory_sha_constants : DataW Unit) = .agg (kl.map fun x => .lit (.int .u32 (x.toNat : Int))) := by rfl
set_option maxRecDepth 100000 in
theorem ks_of_laid {W : World} (h : laidMetH Tryz.prog laidK W) : KS W := by
  rw [MakeChecks.laidMetH_plain _ _ _ (by kernel_rfl)] at h
  obtain ⟨ps, ⟨g, t, cs, f, p, q, hg, ht, hv, hd, _, _⟩, _⟩ := h
  obtain rfl := Option.some.inj (gK.symm.trans hg)
  obtain rfl := Option.some.inj (tK.symm.trans ht)
  obtain ⟨xs, m, rfl, hx, hl, hn, hel⟩ := DataW.trod_array Tryz.underlying194 hd
  rw [laidK_kl] at hx
  simp only [Prod.mk.injEq, DataW.agg.injEq] at hx
  intro j v hj
  have hj64 : j < 64 := by
    have := (List.getElem?_eq_some_iff.1 hj).1
    simpa [len_wvs, kl] using this
  have hxj : j < xs.length := by omega
  have he := hel j hj64
  rw [cellsK, Nat.mul_one, List.getElem?_eq_getElem hxj] at he
  obtain ⟨n, e1, e2, _⟩ := DataW.trod_int Tryz.underlying130 he
  obtain ⟨x, hxk⟩ : ∃ x, kl[j]? = some x := ⟨_, List.getElem?_eq_getElem (by simpa [kl] using hj64)⟩
  have h3 := congrArg (fun l => l[j]?) hx.1
  simp only [List.getElem?_map, hxk, List.getElem?_eq_getElem hxj, Option.map_some, e2] at h3
  have hnx : n = (x.toNat : Int) := by simpa using h3.symm
  have hvx : v = u32V x := by
    have := wvs_at kl j x hxk
    rw [this] at hj
    injection hj with hj
    exact hj.symm
  have hc := World.var?_cell hg hv j
  rw [Nat.zero_add, hc, hvx]
  have h1 : (cs.toList.drop j)[0]? = some (.int .u32 n) := by
    have := congrArg (fun l => l[0]?) e1
    simp only [List.getElem?_take, Nat.lt_one_iff, if_true] at this
    simpa using this
  rw [List.getElem?_drop] at h1
  rw [hnx] at h1
  simpa [u32V] using h1
set_option maxRecDepth 100000 in
theorem door_met (os : Os) (args : Array Value) : laidMetH Tryz.prog laidK ((World.doorLaid Tryz.prog 400 os).forCall (fun _ _ => 0) ⟨#[], args, []⟩).memory :=
  laidMetH_of_parts3 (fuel := 8) (laidMet_of_run' 8 (by kernel_rfl) (by kernel_rfl)) (by kernel_rfl) (by kernel_rfl)
end Go.Proofs.YtnhhbbjkeekneaaGreatDoor
/- F2: opening arguments that are texts of texts, and digests. No project text but the type of texts' lists. -/
namespace Go.V
open Go.ChangeShapes Go.WideShapes Go.ChangeAt Go.RowKit

theorem row_bys {W : World} {A : Option Addr} {L C : Nat} {zs : List Int} (hl : L ≤ C) (hm : C ≤ maxLen) (hz : zs.length = C) (hwz : ∀ z ∈ zs, (Lit.int .u8 z).wf = true) (h0 : A = none → C = 0)
    (hc : ∀ a', A = some a' → ∀ c, c < C → W.cell? (a'.add c) = some (.int .u8 (zs.getD c 0))) : Rd W (fun _ => True) (.slice A L C) (bys ((zs.take L).map fun z => UInt8.ofNat z.toNat)) := by
  have hlen : ((zs.take L).map fun z => UInt8.ofNat z.toNat).length = L := by simp; omega
  have hmap : ∀ z ∈ zs, ((UInt8.ofNat z.toNat).toNat : Int) = z := by
    intro z hzm
    have := u8_of_wf (hwz z hzm)
    rw [UInt8.toNat_ofNat', Nat.mod_eq_of_lt (by omega)]
    omega
  unfold bys Rd
  refine ⟨A, C, by rw [hlen], by omega, hm, fun hn => by rw [List.eq_nil_of_length_eq_zero hn]; rfl, fun hne => ?_⟩
  have hpos : 0 < L := by
    rcases Nat.eq_zero_or_pos L with h | h
    · subst h; exact absurd (by simp) hne
    · exact h
  cases A with
  | none => have := h0 rfl; omega
  | some x =>
    have hx0 : x.spot = none := by
      have := spot_none (hc x rfl 0 (by omega))
      simpa [Addr.add] using this
    obtain ⟨g, off, sp⟩ := x
    simp only at hx0
    subst hx0
    refine ⟨g, off, rfl, trivial, RdC.of_bytes fun j u hu => ?_⟩
    have hj : j < L := by
      have := (List.getElem?_eq_some_iff.1 hu).1
      simp [bvs] at this
      omega
    have hc1 := hc _ rfl j (by omega)
    rw [add_mk] at hc1
    rw [hc1]
    have hjz : j < zs.length := by omega
    simp only [bvs, List.map_map] at hu
    rw [List.getElem?_map] at hu
    have e1 : (zs.take L)[j]? = some zs[j] := by rw [List.getElem?_take, if_pos hj, List.getElem?_eq_getElem hjz]
    rw [e1] at hu
    simp only [Option.map_some, Function.comp] at hu
    injection hu with hu
    rw [← hu]
    unfold byteV
    rw [hmap zs[j] (List.getElem_mem hjz)]
    simp [List.getD, List.getElem?_eq_getElem hjz]

/-- a cell that is a slice of slices of bytes -/
theorem open_txc {H : Type} {enc : TypeId × Value → H} {P : Program} {W : World} {t e q : TypeId} (ht : P.underlying t = some (.slice e)) (he : P.underlying e = some (.slice q)) (hq : P.underlying q = some (.int .u8)) (ce : P.cellsOf e = 1) (cq : P.cellsOf q = 1)
    {fuel : Nat} {v : Value} {y : DataW H × List MemPlace} (hf : DataW.trod enc P W 0 (fun _ => true) true fuel t [v] = some y) : ∃ ts, Rd W (fun _ => True) v (tx ts) := by
  rcases Go.Deep.open_int_rows ht he hq ce cq hf with ⟨hcs, _⟩ | ⟨x, len, cap, A, L, C, Z, hcs, _, hl, hm, _, hrow⟩
  · injection hcs with hcs
    subst hcs
    refine ⟨[], ?_⟩
    unfold tx Rd
    exact ⟨none, 0, rfl, Nat.le_refl _, by simp [maxLen], fun _ => rfl, fun h => absurd rfl h⟩
  · injection hcs with hcs
    subst hcs
    refine ⟨(List.range len).map fun r => ((Z r).take (L r)).map fun z => UInt8.ofNat z.toNat, ?_⟩
    unfold tx Rd
    refine ⟨some x, cap, by simp, by simpa using hl, hm, fun h0 => by rw [List.eq_nil_of_length_eq_zero (by simpa using h0 : (List.range len).length = 0)]; rfl, fun hne => ?_⟩
    have hpos : 0 < len := by
      rcases Nat.eq_zero_or_pos len with h0 | h0
      · subst h0; exact absurd (by simp) hne
      · exact h0
    have hx0 : x.spot = none := by
      have := spot_none (hrow 0 (by omega)).1
      simpa [Addr.add] using this
    obtain ⟨g, off, sp⟩ := x
    simp only at hx0
    subst hx0
    refine ⟨g, off, rfl, trivial, RdC.ofAt fun i d hd => ?_⟩
    rw [List.getElem?_map, List.getElem?_map] at hd
    have hi : i < len := by
      rcases Nat.lt_or_ge i len with hi | hi
      · exact hi
      · rw [List.getElem?_eq_none (by simpa using hi)] at hd; cases hd
    rw [List.getElem?_range hi] at hd
    simp only [Option.map_some] at hd
    injection hd with hd
    subst hd
    obtain ⟨h1, h2, h3, h4, h5, h6, h7⟩ := hrow i (by omega)
    rw [add_mk] at h1
    exact ⟨_, h1, row_bys h2 h3 h4 h5 h6 (fun a' ha => (h7 a' ha).2)⟩
/-- an argument that is a slice of slices of bytes -/
theorem open_tx {H : Type} {enc : TypeId × Value → H} {P : Program} {W : World} {base : Nat} {t e q : TypeId} (ht : P.underlying t = some (.slice e)) (he : P.underlying e = some (.slice q)) (hq : P.underlying q = some (.int .u8)) (ce : P.cellsOf e = 1) (cq : P.cellsOf q = 1)
    {v : Value} {d : DataW H} {p : List MemPlace} (hv : Value.okWide P W .any base t v) (h : DataW.Trod enc P W 0 (fun _ => true) true t v d p) : ∃ ts, Rd W (fun _ => True) v (tx ts) := by
  obtain ⟨a, len, cap, rfl⟩ := okWide_slice ht hv
  obtain ⟨fuel, hf⟩ := h
  exact open_txc ht he hq ce cq hf

/-- an argument that is an array of 32 bytes -/
theorem open_hash {H : Type} {enc : TypeId × Value → H} {P : Program} {W : World} {t e : TypeId} (ht : P.underlying t = some (.array 32 e)) (he : P.underlying e = some (.int .u8)) (hc : P.cellsOf e = 1) (hct : P.cellsOf t = 32)
    {v : Value} {d : DataW H} {p : List MemPlace} (h : DataW.Trod enc P W 0 (fun _ => true) true t v d p) : ∃ bs : List UInt8, v = .agg (bvs bs).toArray ∧ bs.length = 32 := by
  obtain ⟨fuel, hf⟩ := h
  obtain ⟨xs, m, rfl, hx, hl, hn, hel⟩ := DataW.trod_array ht hf
  rw [hct] at hl
  have hag : ∃ cs : Array Value, v = .agg cs := by
    cases v <;> first | exact ⟨_, rfl⟩ | (simp [Value.cells] at hl)
  obtain ⟨⟨l⟩, rfl⟩ := hag
  have hl' : l.length = 32 := by simpa [Value.cells] using hl
  have each : ∀ i, i < 32 → ∃ n : Int, l[i]? = some (.int .u8 n) ∧ 0 ≤ n ∧ n < 256 := by
    intro i hi
    have h1 := hel i hi
    rw [hc, Nat.mul_one, List.getElem?_eq_getElem (by omega)] at h1
    obtain ⟨n, e1, _, hw⟩ := DataW.trod_int he h1
    have := congrArg (fun l => l[0]?) e1
    simp only [List.getElem?_take, Nat.lt_one_iff, if_true, List.getElem?_drop] at this
    exact ⟨n, by simpa [Value.cells] using this, u8_of_wf hw⟩
  refine ⟨l.map fun v => match v with | .int _ n => UInt8.ofNat n.toNat | _ => 0, ?_, by simpa using hl'⟩
  congr 1
  apply Array.ext'
  simp only
  apply List.ext_getElem?
  intro i
  rcases Nat.lt_or_ge i 32 with hi | hi
  · obtain ⟨n, h1, h2, h3⟩ := each i hi
    simp only [bvs, List.getElem?_map, h1, Option.map_some]
    unfold byteV
    rw [UInt8.toNat_ofNat', Nat.mod_eq_of_lt (by omega)]
    congr 2
    omega
  · rw [List.getElem?_eq_none (by omega), List.getElem?_eq_none (by simp [bvs]; omega)]
end Go.V
/- FW: opening arguments that are lists of structs, or arrays of them, whatever the struct. No project text. -/
namespace Go.V
open Go.ChangeShapes Go.WideShapes Go.ChangeAt Go.RowKit Go.Joins Go.Deep
variable {α : Type} {k : Nat}
/-- a cell that is a list of structs -/
theorem open_wdsc {H : Type} {enc : TypeId × Value → H} {P : Program} {W : World} {t e : TypeId} (T : WD α k) (ht : P.underlying t = some (.slice e)) (hce : P.cellsOf e = k) (Q : α → Prop) (a0 : α)
    (hop : ∀ (fuel : Nat) (cs : List Value) (x : DataW H × List MemPlace), DataW.trod enc P W 0 (fun _ => true) true fuel e cs = some x → ∃ a, WdEl W (fun _ => True) T a cs ∧ Q a)
    {fuel : Nat} {c : Value} {y : DataW H × List MemPlace} (hf : DataW.trod enc P W 0 (fun _ => true) true fuel t [c] = some y) : ∃ l : List α, Rd W (fun _ => True) c (wds T l) ∧ ∀ a ∈ l, Q a := by
  rcases open_slice ht hf with ⟨hcs, _⟩ | ⟨x, len, cap, m, n, D, Pl, hcs, _, hl, hm, hmm, _, hi⟩
  · injection hcs with hcs
    subst hcs
    exact ⟨[], wds_nil, fun r h => by simp at h⟩
  · injection hcs with hcs
    subst hcs
    simp at hmm
    subst hmm
    have hall : ∀ i, ∃ r : α, i < len → ∃ cs, (∀ j, j < k → W.cell? ((x.add (i * k)).add j) = cs[j]?) ∧ WdEl W (fun _ => True) T r cs ∧ Q r := fun i => by
      by_cases hlt : i < len
      · obtain ⟨cs', hc, hd⟩ := hi i (by omega)
        rw [hce] at hc
        obtain ⟨_, _, hat⟩ := World.cells?_some hc
        obtain ⟨r, h1, h2⟩ := hop _ _ _ hd
        exact ⟨r, fun _ => ⟨cs', hat, h1, h2⟩⟩
      · exact ⟨a0, fun h => absurd h hlt⟩
    obtain ⟨f, hf⟩ := Classical.skolem.1 hall
    refine ⟨(List.range len).map f, ?_, fun r hr => ?_⟩
    · unfold wds Rd
      have hll : ((List.range len).map f).length = len := by simp
      refine ⟨some x, m, by rw [hll], by rw [hll]; exact hl, hm, fun h => by rw [List.eq_nil_of_length_eq_zero h]; rfl, fun hne => ?_⟩
      have hpos : 0 < len := by
        rcases Nat.eq_zero_or_pos len with h0 | h0
        · subst h0; exact absurd (by simp) hne
        · exact h0
      have hx0 : x.spot = none := by
        obtain ⟨cs, hc, hel, _⟩ := hf 0 hpos
        have hp := T.pos
        have h0 := hc 0 hp
        rw [List.getElem?_eq_getElem (by rw [hel.len]; exact hp)] at h0
        have := spot_none h0
        simpa [Addr.add] using this
      obtain ⟨g, off, sp⟩ := x
      simp only at hx0
      subst hx0
      refine ⟨g, off, rfl, trivial, wdC_of T _ off (fun i r hr => ?_)⟩
      have hil : i < len := by have := (List.getElem?_eq_some_iff.1 hr).1; simpa using this
      have hfi : r = f i := by
        rw [List.getElem?_map, List.getElem?_range hil] at hr
        simpa using hr.symm
      subst hfi
      obtain ⟨cs, hc, hm, _⟩ := hf i hil
      refine wdC_in _ cs _ (by rw [T.len, hm.len]) (fun j w hw => ?_) hm.at_
      have hj : j < k := by have := (List.getElem?_eq_some_iff.1 hw).1; rw [hm.len] at this; exact this
      have := hc j hj
      rw [add_mk, add_mk] at this
      rw [this]
      exact hw
    · obtain ⟨i, hi', rfl⟩ := List.mem_map.1 hr
      obtain ⟨_, _, _, h2⟩ := hf i (by simpa using hi')
      exact h2
end Go.V
/- XF: opening arguments of layer 19: what is asked (a view, a slot, a regency, roots), an int8. -/
namespace Go.Proofs.YtnhhbbjkeekneaaGreatDoor
open Go.ChangeShapes Go.WideShapes Go.ChangeAt Go.RowKit Go.Joins Go.Deep Go.V
/-- what is said of the types of what is asked -/
structure A9Ty (P : Program) (t : TypeId) : Prop where
  it : ∃ f0 f1 f2 f3 e0 e1 : Field, ∃ eh eb : TypeId, P.underlying t = some (.struct #[f0, f1, f2, f3]) ∧ [f0.offset, f1.offset, f2.offset, f3.offset] = [0, 2, 3, 4] ∧ [P.cellsOf t, P.cellsOf f0.type, P.cellsOf f1.type, P.cellsOf f2.type, P.cellsOf f3.type] = [5, 2, 1, 1, 1] ∧
    P.underlying f0.type = some (.struct #[e0, e1]) ∧ [e0.offset, e1.offset] = [0, 1] ∧ [P.cellsOf e0.type, P.cellsOf e1.type] = [1, 1] ∧ P.underlying e0.type = some (.int .i64) ∧ P.underlying e1.type = some (.int .u16) ∧
    P.underlying f1.type = some (.int .i64) ∧ P.underlying f2.type = some (.int .i64) ∧ P.underlying f3.type = some (.slice eh) ∧ P.underlying eh = some (.array 32 eb) ∧ P.underlying eb = some (.int .u8) ∧ P.cellsOf eb = 1 ∧ P.cellsOf eh = 32
theorem open_hxc {H : Type} {enc : TypeId × Value → H} {P : Program} {W : World} {t e : TypeId} (ht : P.underlying t = some (.array 32 e)) (he : P.underlying e = some (.int .u8)) (hc : P.cellsOf e = 1) (hct : P.cellsOf t = 32) {fuel : Nat} {cs : List Value} {x : DataW H × List MemPlace} (h : DataW.trod enc P W 0 (fun _ => true) true fuel t cs = some x) : ∃ a : Hx, WdEl W (fun _ => True) hxD a cs ∧ True := by
  obtain ⟨d, p⟩ := x
  obtain ⟨bs, hv, hl⟩ := open_hash (W := W) ht he hc hct (v := .agg cs.toArray) (d := d) (p := p) ⟨fuel, h⟩
  injection hv with hv
  have hv : cs = bvs bs := by simpa using hv
  subst hv
  exact ⟨⟨bs, hl⟩, hx_mk, trivial⟩
/-- an argument that is what is asked -/
theorem open_a9 {H : Type} {enc : TypeId × Value → H} {P : Program} {W : World} {base : Nat} {t : TypeId} (hT : A9Ty P t) {v : Value} {d : DataW H} {p : List MemPlace} (hv : Value.okWide P W .any base t v) (h : DataW.Trod enc P W 0 (fun _ => true) true t v d p) :
    ∃ (n : Int) (M : Nat) (fi rg : Int) (R : List Hx) (ur : Value), v = .agg #[.int .i64 n, .int .u16 (M : Int), .int .i64 fi, .int .i64 rg, ur] ∧ Rd W (fun _ => True) ur (wds hxD R) ∧ in64w n ∧ M < 65536 ∧ in64w fi ∧ in64w rg := by
  obtain ⟨f0, f1, f2, f3, e0, e1, eh, eb, ht, hof, hcl, h0, hoe, hce, g0, g1, h1, h2, h3, hh, hb, cb, ch⟩ := hT.it
  obtain ⟨cs, rfl, _⟩ := okWide_struct ht hv
  obtain ⟨fuel, hf⟩ := h
  obtain ⟨cs⟩ := cs
  have hf : DataW.trod enc P W 0 (fun _ => true) true fuel t cs = some (d, p) := hf
  obtain ⟨y0, y1, y2, y3, n, _, hl, r0, r1, r2, r3⟩ := trod_struct4 ht hf
  simp only [List.cons.injEq, and_true] at hof hcl hoe hce
  obtain ⟨o0, o1, o2, o3⟩ := hof
  obtain ⟨k, k0, k1, k2, k3⟩ := hcl
  obtain ⟨p0, p1⟩ := hoe
  obtain ⟨q0, q1⟩ := hce
  rw [k] at hl
  rw [o0, k0] at r0
  rw [o1, k1] at r1
  rw [o2, k2] at r2
  rw [o3, k3] at r3
  match cs, hl with
  | [c0, c1, c2, c3, c4], _ =>
    obtain ⟨z0, z1, mm, _, _, s0, s1⟩ := trod_struct2 h0 r0
    rw [p0, q0] at s0
    rw [p1, q1] at s1
    obtain ⟨N, a0, _, w0⟩ := DataW.trod_int g0 s0
    obtain ⟨X, a1, _, w1⟩ := DataW.trod_int g1 s1
    obtain ⟨M, rfl, hMb⟩ := u16_of_wf w1
    obtain ⟨Y, a2, _, w2⟩ := DataW.trod_int h1 r1
    obtain ⟨Z, a3, _, w3⟩ := DataW.trod_int h2 r2
    simp only [List.drop_zero, List.drop_succ_cons, List.take_succ_cons, List.take_zero, List.cons.injEq, and_true] at a0 a1 a2 a3 r3
    subst a0 a1 a2 a3
    obtain ⟨R, hR, _⟩ := open_wdsc hxD h3 ch (fun _ => True) ⟨List.replicate 32 0, rfl⟩ (fun _ _ _ h => open_hxc hh hb cb ch h) (c := c4) r3
    exact ⟨N, M, Y, Z, R, c4, rfl, hR, i64_of_wf w0, hMb, i64_of_wf w2, i64_of_wf w3⟩
theorem a9Ty : A9Ty Tryz.prog 27 := ⟨⟨_, _, _, _, _, _, _, _, Tryz.underlying27, by kernel_rfl, by kernel_rfl, Tryz.underlying24, by kernel_rfl, by kernel_rfl, Tryz.underlying3, Tryz.underlying22, Tryz.underlying3, Tryz.underlying3, Tryz.underlying25, Tryz.underlying32, Tryz.underlying5, by kernel_rfl, by kernel_rfl⟩⟩
end Go.Proofs.YtnhhbbjkeekneaaGreatDoor
