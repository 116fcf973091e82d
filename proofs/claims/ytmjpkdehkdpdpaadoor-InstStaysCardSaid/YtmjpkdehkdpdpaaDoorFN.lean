/- FN: several texts in one (F2 FW FN F6). -/
import Derived.Test.YtmjpkdehkdpdpaaDoorF
import Derived.Test.YtmjpkdehkdpdpaaDoorVA
import Derived.Deep.Matrix
import Derived.OpenShut
import Derived.Test.YtmjpkdehkdpdpaaDoorLW
import Derived.Lib.SmallJoins
import Derived.Deep.Slices
import Derived.ChangeSame
import Derived.Test.YtmjpkdehkdpdpaaDoorKs
import Derived.Test.YtmjpkdehkdpdpaaDoorW3
/- F2: opening arguments that are texts of texts, and digests. No project text but the type of texts' lists. -/
namespace Go.V
open Go.ChangeShapes Go.WideShapes Go.ChangeAt Go.RowKit

theorem row_bys {W : World} {A : Option Addr} {L C : Nat} {zs : List Int} (hl : L ≤ C) (hm : C ≤ maxLen) (hz : zs.length = C) (hwz : ∀ z ∈ zs, (Lit.int .u8 z).wf = true) (h0 : A = none → C = 0)
    (hc : ∀ a', A = some a' → ∀ c, c < C → W.cell? (a'.add c) = some (.int .u8 (zs.getD c 0))) : Rd W (fun _ => True) (.slice A L C) (bys ((zs.take L).map fun z => UInt8.ofNat z.toNat)) := by
  have hlen : ((zs.take L).map fun z => UInt8.ofNat z.toNat).length = L := by simp; omega
  have hmap : ∀ z ∈ zs, ((UInt8.ofNat z.toNat).toNat : Int) = z := by
    intro z hzm
    have := u8_of_wf (hwz z hzm)
    rw [UInt8.toNat_ofNat', Nat.mod_eq_of_lt (by omega)]
    omega
  unfold bys Rd
  refine ⟨A, C, by rw [hlen], by omega, hm, fun hn => by rw [List.eq_nil_of_length_eq_zero hn]; rfl, fun hne => ?_⟩
  have hpos : 0 < L := by
    rcases Nat.eq_zero_or_pos L with h | h
    · subst h; exact absurd (by simp) hne
    · exact h
  cases A with
  | none => have := h0 rfl; omega
  | some x =>
    have hx0 : x.spot = none := by
      have := spot_none (hc x rfl 0 (by omega))
      simpa [Addr.add] using this
    obtain ⟨g, off, sp⟩ := x
    simp only at hx0
    subst hx0
    refine ⟨g, off, rfl, trivial, RdC.of_bytes fun j u hu => ?_⟩
    have hj : j < L := by
      have := (List.getElem?_eq_some_iff.1 hu).1
      simp [bvs] at this
      omega
    have hc1 := hc _ rfl j (by omega)
    rw [add_mk] at hc1
    rw [hc1]
    have hjz : j < zs.length := by omega
    simp only [bvs, List.map_map] at hu
    rw [List.getElem?_map] at hu
    have e1 : (zs.take L)[j]? = some zs[j] := by rw [List.getElem?_take, if_pos hj, List.getElem?_eq_getElem hjz]
    rw [e1] at hu
    simp only [Option.map_some, Function.comp] at hu
    injection hu with hu
    rw [← hu]
    unfold byteV
    rw [hmap zs[j] (List.getElem_mem hjz)]
    simp [List.getD, List.getElem?_eq_getElem hjz]

/-- a cell that is a slice of slices of bytes -/
theorem open_txc {H : Type} {enc : TypeId × Value → H} {P : Program} {W : World} {t e q : TypeId} (ht : P.underlying t = some (.slice e)) (he : P.underlying e = some (.slice q)) (hq : P.underlying q = some (.int .u8)) (ce : P.cellsOf e = 1) (cq : P.cellsOf q = 1)
    {fuel : Nat} {v : Value} {y : DataW H × List MemPlace} (hf : DataW.trod enc P W 0 (fun _ => true) true fuel t [v] = some y) : ∃ ts, Rd W (fun _ => True) v (tx ts) := by
  rcases Go.Deep.open_int_rows ht he hq ce cq hf with ⟨hcs, _⟩ | ⟨x, len, cap, A, L, C, Z, hcs, _, hl, hm, _, hrow⟩
  · injection hcs with hcs
    subst hcs
    refine ⟨[], ?_⟩
    unfold tx Rd
    exact ⟨none, 0, rfl, Nat.le_refl _, by simp [maxLen], fun _ => rfl, fun h => absurd rfl h⟩
  · injection hcs with hcs
    subst hcs
    refine ⟨(List.range len).map fun r => ((Z r).take (L r)).map fun z => UInt8.ofNat z.toNat, ?_⟩
    unfold tx Rd
    refine ⟨some x, cap, by simp, by simpa using hl, hm, fun h0 => by rw [List.eq_nil_of_length_eq_zero (by simpa using h0 : (List.range len).length = 0)]; rfl, fun hne => ?_⟩
    have hpos : 0 < len := by
      rcases Nat.eq_zero_or_pos len with h0 | h0
      · subst h0; exact absurd (by simp) hne
      · exact h0
    have hx0 : x.spot = none := by
      have := spot_none (hrow 0 (by omega)).1
      simpa [Addr.add] using this
    obtain ⟨g, off, sp⟩ := x
    simp only at hx0
    subst hx0
    refine ⟨g, off, rfl, trivial, RdC.ofAt fun i d hd => ?_⟩
    rw [List.getElem?_map, List.getElem?_map] at hd
    have hi : i < len := by
      rcases Nat.lt_or_ge i len with hi | hi
      · exact hi
      · rw [List.getElem?_eq_none (by simpa using hi)] at hd; cases hd
    rw [List.getElem?_range hi] at hd
    simp only [Option.map_some] at hd
    injection hd with hd
    subst hd
    obtain ⟨h1, h2, h3, h4, h5, h6, h7⟩ := hrow i (by omega)
    rw [add_mk] at h1
    exact ⟨_, h1, row_bys h2 h3 h4 h5 h6 (fun a' ha => (h7 a' ha).2)⟩
/-- an argument that is a slice of slices of bytes -/
theorem open_tx {H : Type} {enc : TypeId × Value → H} {P : Program} {W : World} {base : Nat} {t e q : TypeId} (ht : P.underlying t = some (.slice e)) (he : P.underlying e = some (.slice q)) (hq : P.underlying q = some (.int .u8)) (ce : P.cellsOf e = 1) (cq : P.cellsOf q = 1)
    {v : Value} {d : DataW H} {p : List MemPlace} (hv : Value.okWide P W .any base t v) (h : DataW.Trod enc P W 0 (fun _ => true) true t v d p) : ∃ ts, Rd W (fun _ => True) v (tx ts) := by
  obtain ⟨a, len, cap, rfl⟩ := okWide_slice ht hv
  obtain ⟨fuel, hf⟩ := h
  exact open_txc ht he hq ce cq hf

/-- an argument that is an array of 32 bytes -/
theorem open_hash {H : Type} {enc : TypeId × Value → H} {P : Program} {W : World} {t e : TypeId} (ht : P.underlying t = some (.array 32 e)) (he : P.underlying e = some (.int .u8)) (hc : P.cellsOf e = 1) (hct : P.cellsOf t = 32)
    {v : Value} {d : DataW H} {p : List MemPlace} (h : DataW.Trod enc P W 0 (fun _ => true) true t v d p) : ∃ bs : List UInt8, v = .agg (bvs bs).toArray ∧ bs.length = 32 := by
  obtain ⟨fuel, hf⟩ := h
  obtain ⟨xs, m, rfl, hx, hl, hn, hel⟩ := DataW.trod_array ht hf
  rw [hct] at hl
  have hag : ∃ cs : Array Value, v = .agg cs := by
    cases v <;> first | exact ⟨_, rfl⟩ | (simp [Value.cells] at hl)
  obtain ⟨⟨l⟩, rfl⟩ := hag
  have hl' : l.length = 32 := by simpa [Value.cells] using hl
  have each : ∀ i, i < 32 → ∃ n : Int, l[i]? = some (.int .u8 n) ∧ 0 ≤ n ∧ n < 256 := by
    intro i hi
    have h1 := hel i hi
    rw [hc, Nat.mul_one, List.getElem?_eq_getElem (by omega)] at h1
    obtain ⟨n, e1, _, hw⟩ := DataW.trod_int he h1
    have := congrArg (fun l => l[0]?) e1
    simp only [List.getElem?_take, Nat.lt_one_iff, if_true, List.getElem?_drop] at this
    exact ⟨n, by simpa [Value.cells] using this, u8_of_wf hw⟩
  refine ⟨l.map fun v => match v with | .int _ n => UInt8.ofNat n.toNat | _ => 0, ?_, by simpa using hl'⟩
  congr 1
  apply Array.ext'
  simp only
  apply List.ext_getElem?
  intro i
  rcases Nat.lt_or_ge i 32 with hi | hi
  · obtain ⟨n, h1, h2, h3⟩ := each i hi
    simp only [bvs, List.getElem?_map, h1, Option.map_some]
    unfold byteV
    rw [UInt8.toNat_ofNat', Nat.mod_eq_of_lt (by omega)]
    congr 2
    omega
  · rw [List.getElem?_eq_none (by omega), List.getElem?_eq_none (by simp [bvs]; omega)]
end Go.V
/- FW: opening arguments that are lists of structs, or arrays of them, whatever the struct. No project text. -/
namespace Go.V
open Go.ChangeShapes Go.WideShapes Go.ChangeAt Go.RowKit Go.Joins Go.Deep
variable {α : Type} {k : Nat}
/-- a cell that is a list of structs -/
theorem open_wdsc {H : Type} {enc : TypeId × Value → H} {P : Program} {W : World} {t e : TypeId} (T : WD α k) (ht : P.underlying t = some (.slice e)) (hce : P.cellsOf e = k) (Q : α → Prop) (a0 : α)
    (hop : ∀ (fuel : Nat) (cs : List Value) (x : DataW H × List MemPlace), DataW.trod enc P W 0 (fun _ => true) true fuel e cs = some x → ∃ a, WdEl W (fun _ => True) T a cs ∧ Q a)
    {fuel : Nat} {c : Value} {y : DataW H × List MemPlace} (hf : DataW.trod enc P W 0 (fun _ => true) true fuel t [c] = some y) : ∃ l : List α, Rd W (fun _ => True) c (wds T l) ∧ ∀ a ∈ l, Q a := by
  rcases open_slice ht hf with ⟨hcs, _⟩ | ⟨x, len, cap, m, n, D, Pl, hcs, _, hl, hm, hmm, _, hi⟩
  · injection hcs with hcs
    subst hcs
    exact ⟨[], wds_nil, fun r h => by simp at h⟩
  · injection hcs with hcs
    subst hcs
    simp at hmm
    subst hmm
    have hall : ∀ i, ∃ r : α, i < len → ∃ cs, (∀ j, j < k → W.cell? ((x.add (i * k)).add j) = cs[j]?) ∧ WdEl W (fun _ => True) T r cs ∧ Q r := fun i => by
      by_cases hlt : i < len
      · obtain ⟨cs', hc, hd⟩ := hi i (by omega)
        rw [hce] at hc
        obtain ⟨_, _, hat⟩ := World.cells?_some hc
        obtain ⟨r, h1, h2⟩ := hop _ _ _ hd
        exact ⟨r, fun _ => ⟨cs', hat, h1, h2⟩⟩
      · exact ⟨a0, fun h => absurd h hlt⟩
    obtain ⟨f, hf⟩ := Classical.skolem.1 hall
    refine ⟨(List.range len).map f, ?_, fun r hr => ?_⟩
    · unfold wds Rd
      have hll : ((List.range len).map f).length = len := by simp
      refine ⟨some x, m, by rw [hll], by rw [hll]; exact hl, hm, fun h => by rw [List.eq_nil_of_length_eq_zero h]; rfl, fun hne => ?_⟩
      have hpos : 0 < len := by
        rcases Nat.eq_zero_or_pos len with h0 | h0
        · subst h0; exact absurd (by simp) hne
        · exact h0
      have hx0 : x.spot = none := by
        obtain ⟨cs, hc, hel, _⟩ := hf 0 hpos
        have hp := T.pos
        have h0 := hc 0 hp
        rw [List.getElem?_eq_getElem (by rw [hel.len]; exact hp)] at h0
        have := spot_none h0
        simpa [Addr.add] using this
      obtain ⟨g, off, sp⟩ := x
      simp only at hx0
      subst hx0
      refine ⟨g, off, rfl, trivial, wdC_of T _ off (fun i r hr => ?_)⟩
      have hil : i < len := by have := (List.getElem?_eq_some_iff.1 hr).1; simpa using this
      have hfi : r = f i := by
        rw [List.getElem?_map, List.getElem?_range hil] at hr
        simpa using hr.symm
      subst hfi
      obtain ⟨cs, hc, hm, _⟩ := hf i hil
      refine wdC_in _ cs _ (by rw [T.len, hm.len]) (fun j w hw => ?_) hm.at_
      have hj : j < k := by have := (List.getElem?_eq_some_iff.1 hw).1; rw [hm.len] at this; exact this
      have := hc j hj
      rw [add_mk, add_mk] at this
      rw [this]
      exact hw
    · obtain ⟨i, hi', rfl⟩ := List.mem_map.1 hr
      obtain ⟨_, _, _, h2⟩ := hf i (by simpa using hi')
      exact h2
/-- an argument that is a list of structs -/
theorem open_wds {H : Type} {enc : TypeId × Value → H} {P : Program} {W : World} {base : Nat} {t e : TypeId} (T : WD α k) (ht : P.underlying t = some (.slice e)) (hce : P.cellsOf e = k) (Q : α → Prop) (a0 : α)
    (hop : ∀ (fuel : Nat) (cs : List Value) (x : DataW H × List MemPlace), DataW.trod enc P W 0 (fun _ => true) true fuel e cs = some x → ∃ a, WdEl W (fun _ => True) T a cs ∧ Q a)
    {v : Value} {d : DataW H} {p : List MemPlace} (hv : Value.okWide P W .any base t v) (h : DataW.Trod enc P W 0 (fun _ => true) true t v d p) : ∃ l : List α, Rd W (fun _ => True) v (wds T l) ∧ ∀ a ∈ l, Q a := by
  obtain ⟨a, len, cap, rfl⟩ := okWide_slice ht hv
  obtain ⟨fuel, hf⟩ := h
  exact open_wdsc T ht hce Q a0 hop hf
/-- a list of cells cut into pieces -/
theorem cut_pieces {L : α → List Value} {Q : α → Prop} : ∀ (n : Nat) (cs : List Value), cs.length = n * k → (∀ i, i < n → ∃ a, (cs.drop (i * k)).take k = L a ∧ Q a) → ∃ l : List α, cs = l.flatMap L ∧ l.length = n ∧ ∀ a ∈ l, Q a
  | 0, cs, hl, _ => ⟨[], by rw [Nat.zero_mul] at hl; rw [List.eq_nil_of_length_eq_zero hl]; rfl, rfl, fun a h => by simp at h⟩
  | n + 1, cs, hl, h => by
    obtain ⟨a, ha, hq⟩ := h 0 (by omega)
    rw [Nat.zero_mul, List.drop_zero] at ha
    have hl' : (cs.drop k).length = n * k := by rw [List.length_drop, hl, Nat.add_mul]; omega
    obtain ⟨l, h1, h2, h3⟩ := cut_pieces (L := L) (Q := Q) n (cs.drop k) hl' (fun i hi => by
      obtain ⟨b, hb, hqb⟩ := h (i + 1) (by omega)
      refine ⟨b, ?_, hqb⟩
      rw [List.drop_drop, ← hb]
      congr 2
      rw [Nat.add_mul, Nat.one_mul, Nat.add_comm])
    refine ⟨a :: l, ?_, by simp [h2], fun b hb => ?_⟩
    · rw [List.flatMap_cons, ← h1, ← ha, List.take_append_drop]
    · rcases List.mem_cons.1 hb with rfl | hb
      · exact hq
      · exact h3 b hb
/-- cells that are an array of structs -/
theorem open_arrc {H : Type} {enc : TypeId × Value → H} {P : Program} {W : World} {t e : TypeId} {n : Nat} (ht : P.underlying t = some (.array n e)) (hce : P.cellsOf e = k) (hct : P.cellsOf t = n * k) (L : α → List Value) (Q : α → Prop)
    (hop : ∀ (fuel : Nat) (cs : List Value) (x : DataW H × List MemPlace), DataW.trod enc P W 0 (fun _ => true) true fuel e cs = some x → ∃ a, cs = L a ∧ Q a)
    {fuel : Nat} {cs : List Value} {y : DataW H × List MemPlace} (hf : DataW.trod enc P W 0 (fun _ => true) true fuel t cs = some y) : ∃ l : List α, cs = l.flatMap L ∧ l.length = n ∧ ∀ a ∈ l, Q a := by
  obtain ⟨xs, m, rfl, hx, hl, hn, hel⟩ := DataW.trod_array ht hf
  rw [hct] at hl
  refine cut_pieces n cs hl (fun i hi => ?_)
  have h1 := hel i hi
  rw [hce, List.getElem?_eq_getElem (by omega)] at h1
  exact hop _ _ _ h1
end Go.V
/- FN: opening arguments of layer 18: lists of acts (a kind and bytes), two of them. -/
namespace Go.Proofs.YtmjpkdehkdpdpaaDoor
open Go.ChangeShapes Go.WideShapes Go.ChangeAt Go.RowKit Go.Joins Go.Deep Go.V
/-- what is said of the types of an act -/
structure AtTy (P : Program) (t : TypeId) : Prop where
  it : ∃ f0 f1 : Field, ∃ eb : TypeId, P.underlying t = some (.struct #[f0, f1]) ∧ [f0.offset, f1.offset] = [0, 1] ∧ [P.cellsOf t, P.cellsOf f0.type, P.cellsOf f1.type] = [2, 1, 1] ∧
    P.underlying f0.type = some (.int .i64) ∧ P.underlying f1.type = some (.slice eb) ∧ P.underlying eb = some (.int .u8) ∧ P.cellsOf eb = 1
theorem AtTy.cells {P : Program} {t : TypeId} (hT : AtTy P t) : P.cellsOf t = 2 := by
  obtain ⟨_, _, _, _, _, hcl, _⟩ := hT.it
  simp only [List.cons.injEq, and_true] at hcl
  exact hcl.1
theorem open_atc {H : Type} {enc : TypeId × Value → H} {P : Program} {W : World} {t : TypeId} (hT : AtTy P t) {fuel : Nat} {cs : List Value} {x : DataW H × List MemPlace} (h : DataW.trod enc P W 0 (fun _ => true) true fuel t cs = some x) : ∃ a, WdEl W (fun _ => True) atD a cs ∧ True := by
  obtain ⟨f0, f1, eb, ht, hof, hcl, h0, h1, hb, cb⟩ := hT.it
  obtain ⟨y0, y1, n, _, hl, r0, r1⟩ := trod_struct2 ht h
  simp only [List.cons.injEq, and_true] at hof hcl
  obtain ⟨o0, o1⟩ := hof
  obtain ⟨k, k0, k1⟩ := hcl
  rw [k] at hl
  rw [o0, k0] at r0
  rw [o1, k1] at r1
  match cs, hl with
  | [c0, c1], _ =>
    obtain ⟨K, e0, _, w0⟩ := DataW.trod_int h0 r0
    simp only [List.drop_zero, List.drop_succ_cons, List.take_succ_cons, List.take_zero, List.cons.injEq, and_true] at e0 r1
    subst e0
    obtain ⟨bs, R⟩ := open_bysc h1 hb cb r1
    exact ⟨⟨K, bs⟩, at_mk R, trivial⟩
/-- an argument that is a list of acts -/
theorem open_ats {H : Type} {enc : TypeId × Value → H} {P : Program} {W : World} {base : Nat} {t e : TypeId} (ht : P.underlying t = some (.slice e)) (hT : AtTy P e) {v : Value} {d : DataW H} {p : List MemPlace} (hv : Value.okWide P W .any base t v) (h : DataW.Trod enc P W 0 (fun _ => true) true t v d p) :
    ∃ l : List At, Rd W (fun _ => True) v (wds atD l) := by
  obtain ⟨l, h1, _⟩ := open_wds atD ht hT.cells (fun _ => True) ⟨0, []⟩ (fun _ _ _ h => open_atc hT h) hv h
  exact ⟨l, h1⟩
/-- an argument that is two lists of acts -/
theorem open_twoats {H : Type} {enc : TypeId × Value → H} {P : Program} {W : World} {t e q : TypeId} (ht : P.underlying t = some (.array 2 e)) (he : P.underlying e = some (.slice q)) (hT : AtTy P q) (hct : P.cellsOf t = 2) (hce : P.cellsOf e = 1)
    {v : Value} {d : DataW H} {p : List MemPlace} (h : DataW.Trod enc P W 0 (fun _ => true) true t v d p) : ∃ (u0 u1 : Value) (l0 l1 : List At), v = .agg #[u0, u1] ∧ Rd W (fun _ => True) u0 (wds atD l0) ∧ Rd W (fun _ => True) u1 (wds atD l1) := by
  obtain ⟨fuel, hf⟩ := h
  obtain ⟨xs, m, rfl, hx, hl, hn, hel⟩ := DataW.trod_array ht hf
  rw [hct] at hl
  have hag : ∃ cs : Array Value, v = .agg cs := by
    cases v <;> first | exact ⟨_, rfl⟩ | (simp [Value.cells] at hl)
  obtain ⟨⟨l⟩, rfl⟩ := hag
  have hl' : l.length = 2 := by simpa [Value.cells] using hl
  match l, hl' with
  | [u0, u1], _ =>
    have h0 := hel 0 (by omega)
    have h1 := hel 1 (by omega)
    rw [hce, List.getElem?_eq_getElem (by omega)] at h0 h1
    obtain ⟨l0, R0, _⟩ := open_wdsc atD he hT.cells (fun _ => True) ⟨0, []⟩ (fun _ _ _ h => open_atc hT h) (c := u0) h0
    obtain ⟨l1, R1, _⟩ := open_wdsc atD he hT.cells (fun _ => True) ⟨0, []⟩ (fun _ _ _ h => open_atc hT h) (c := u1) h1
    exact ⟨u0, u1, l0, l1, rfl, R0, R1⟩
theorem atTy : AtTy Tryd.prog 37 := ⟨⟨_, _, _, Tryd.underlying37, by kernel_rfl, by kernel_rfl, Tryd.underlying3, Tryd.underlying35, Tryd.underlying5, by kernel_rfl⟩⟩
end Go.Proofs.YtmjpkdehkdpdpaaDoor
/- F6: opening an argument that is a view. No project text. -/
namespace Go.V
open Go.ChangeShapes Go.WideShapes Go.ChangeAt Go.RowKit Go.Joins Go.Deep
/-- an argument that is a view -/
theorem open_view {H : Type} {enc : TypeId × Value → H} {P : Program} {W : World} {base : Nat} {t : TypeId} {f0 f1 : Field} (ht : P.underlying t = some (.struct #[f0, f1])) (hone : oneCellFields P #[f0, f1] = true) (hC : P.cellsOf t = 2)
    (h0 : P.underlying f0.type = some (.int .i64)) (h1 : P.underlying f1.type = some (.int .u16))
    {v : Value} {d : DataW H} {p : List MemPlace} (hv : Value.okWide P W .any base t v) (h : DataW.Trod enc P W 0 (fun _ => true) true t v d p) :
    ∃ (n : Int) (M : Nat), v = vw n M ∧ M < 65536 ∧ -9223372036854775808 ≤ n ∧ n ≤ 9223372036854775807 := by
  obtain ⟨v0, v1, y0, y1, k, rfl, _, _, r0, r1⟩ := open_agg2 ht hone hC hv h
  obtain ⟨n, e0, _, w0⟩ := DataW.trod_int h0 r0
  obtain ⟨m, e1, _, w1⟩ := DataW.trod_int h1 r1
  obtain ⟨M, rfl, hM⟩ := u16_of_wf w1
  have hn := i64_of_wf w0
  injection e0 with e0
  injection e1 with e1
  subst e0 e1
  exact ⟨n, M, rfl, hM, hn⟩
end Go.V
