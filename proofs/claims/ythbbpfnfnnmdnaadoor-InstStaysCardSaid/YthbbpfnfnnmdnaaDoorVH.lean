/- VH: several texts in one (MV NA VH). -/
import Derived.Test.YthbbpfnfnnmdnaaDoorMT
import Derived.Test.YthbbpfnfnnmdnaaDoorLW
import Derived.Test.YthbbpfnfnnmdnaaDoorVA
import Derived.WideKeyEntry
/- MV: maps by keys of any kind: the laws inside a region that draws its order; delete while the map is ranged over; elements that are a struct. No project text. -/
namespace Go.V
open Go.RowKit Go.Maps Go.ChangeShapes Go.WideShapes Go.ChangeMaps
/-- an element that is a struct, as WD tells it -/
def WD.V {α : Type} {n : Nat} (T : WD α n) (w : World) (F : Nat → Prop) (v : Value) (a : α) : Prop := ∃ cs : List Value, v = .agg cs.toArray ∧ WdEl w F T a cs
variable {P : Program} {k : TypeId} {κ β : Type} [DecidableEq κ] {T : MK P k κ β} {w : World} {F : Nat → Prop} {b : Nat} {L : List (κ × β)}
variable {ops : Array Oper} {rest : List Oper} {o : Oper} {a : Act} {Q : Exit → Act → World → Prop} {K : Act → World → Prop} {E : Prop}
/-- what 'm[s]' comes to -/
theorem MpS.run_look (h : MpS T w F b L) (t e : TypeId) (c : Bool) (ht : P.underlying t = some (.map k e)) {z : Value} (hz : (zeroValue e).run P w = .ok z w) (s : κ) :
    (findS L s = none ∧ (Instr.lookup t (.map (some b)) (T.kv s) c).run P w = .ok (if c then .tuple #[z, .bool false] else z) w) ∨
    ∃ d v, findS L s = some d ∧ T.V w F v d ∧ (Instr.lookup t (.map (some b)) (T.kv s) c).run P w = .ok (if c then .tuple #[v, .bool true] else v) w := by
  obtain ⟨l, es, hown, hf⟩ := h.find s
  have hkey := T.ko s
  cases c with
  | false =>
    obtain ⟨v, ps, hrun, hv⟩ := hown.lookup T.law ht hz (zd := .held z) (zp := []) rfl hkey
    have hd := heldA_inv hv
    rcases hf with ⟨h1, h2, h3⟩ | ⟨d, u, h1, h2, h3, h4⟩
    · rw [h3 (.held z)] at hd
      injection hd with hd
      subst hd
      exact .inl ⟨h1, hrun⟩
    · rw [h4 (.held z)] at hd
      injection hd with hd
      subst hd
      exact .inr ⟨d, _, h1, h2, hrun⟩
  | true =>
    obtain ⟨v, ps, hrun, hv⟩ := hown.look_ok T.law ht hz (zd := .held z) (zp := []) rfl hkey
    have hd := heldA_inv hv
    rcases hf with ⟨h1, h2, h3⟩ | ⟨d, u, h1, h2, h3, h4⟩
    · rw [h3 (.held z)] at hd
      injection hd with hd
      subst hd
      rw [h2] at hrun
      exact .inl ⟨h1, hrun⟩
    · rw [h4 (.held z)] at hd
      injection hd with hd
      subst hd
      rw [h3] at hrun
      exact .inr ⟨d, _, h1, h2, hrun⟩
/-- what 'm[s] = v' comes to -/
theorem MpS.run_put (h : MpS T w F b L) (t e : TypeId) (ht : P.underlying t = some (.map k e)) (hL : L.length < maxLen) (s : κ) {v : Value} {d : β} (hv : T.V w F v d) (hF : ¬ F b) :
    ∃ w', (Instr.mapUpdate t (.map (some b)) (T.kv s) v).run P w = .ok () w' ∧ MpS T w' F b ((s, d) :: woS L s) ∧ w.grownBy w' (some b) ∧ w.heap.size = w'.heap.size := by
  obtain ⟨l, es, h1, hown, hp, h5⟩ := h
  have hl : l.length < maxLen := by rw [← h1] at hL; simpa using hL
  obtain ⟨w', hrun, ho', ht'⟩ := hown.store (val := v) (d := .held v) (ps := []) T.law ht hl (T.ko s) rfl
  have hg := ht'.grown
  have hkp : ∀ x, x < w.heap.size → F x → F x ∧ w'.heap[x]? = w.heap[x]? := fun x hx hf => ⟨hf, hg.block x hx (fun e => by injection e with e; subst e; exact hF hf)⟩
  refine ⟨w', hrun, MpS.put_of h1 hp (fun p hp => T.keep (h5 p hp) hkp) (T.keep hv hkp) ho', hg, ?_⟩
  obtain ⟨es1, clock, es2, clock2, _, rfl⟩ := ht'
  simp [ChangeMaps.setBlock]
/-- 'v, ok := m[s]' and 'm[s]', in a region that draws its order -/
theorem step_lookS (t e : TypeId) (m x : Operand) (c : Bool) (hgd : o.guard = none) (ho : o.op = .lookup t m x c) (ht : P.underlying t = some (.map k e)) {z : Value} (hz : (zeroValue e).run P w = .ok z w)
    (hm : a.eval m = .map (some b)) (h : MpS T w F b L) {s : κ} (hx : a.eval x = T.kv s)
    (hN : findS L s = none → K (a.put o.dst (if c then .tuple #[z, .bool false] else z)) w)
    (hY : ∀ d v, findS L s = some d → T.V w F v d → K (a.put o.dst (if c then .tuple #[v, .bool true] else v)) w) : if Region.wanted o (yielded ops a.tmps) = true then Oper.wp P o a w K Q else E := by
  have hw : Region.wanted o (yielded ops a.tmps) = true := by simp [Region.wanted, hgd]
  rw [if_pos hw]
  rcases h.run_look t e c ht hz s with ⟨h1, hrun⟩ | ⟨d, v, h1, h2, hrun⟩
  · unfold Oper.wp execOp
    simp only [ho, hm, hx, Sem.run_bind, Sem.run_pure, hrun, Result.andThen_ok]
    exact hN h1
  · unfold Oper.wp execOp
    simp only [ho, hm, hx, Sem.run_bind, Sem.run_pure, hrun, Result.andThen_ok]
    exact hY d v h1 h2
/-- 'm[s] = v', in a region that draws its order -/
theorem step_putS (t e : TypeId) (m x y : Operand) (hgd : o.guard = none) (ho : o.op = .mapUpdate t m x y) (ht : P.underlying t = some (.map k e))
    (hm : a.eval m = .map (some b)) (h : MpS T w F b L) (hL : L.length < maxLen) {s : κ} (hx : a.eval x = T.kv s) {v : Value} (hy : a.eval y = v) {d : β} (hv : T.V w F v d) (hF : ¬ F b)
    (hK : ∀ w', MpS T w' F b ((s, d) :: woS L s) → w.grownBy w' (some b) → w.heap.size = w'.heap.size → K (a.put o.dst undef) w') : if Region.wanted o (yielded ops a.tmps) = true then Oper.wp P o a w K Q else E := by
  have hw : Region.wanted o (yielded ops a.tmps) = true := by simp [Region.wanted, hgd]
  rw [if_pos hw]
  obtain ⟨w', hrun, h1, h2, h3⟩ := h.run_put t e ht hL s hv hF
  unfold Oper.wp execOp
  simp only [ho, hm, hx, hy, Sem.run_bind, Sem.run_pure, hrun, Result.andThen_ok]
  exact hK w' h1 h2 h3
/-- what no key of the list is taken away -/
theorem woS_none {L : List (κ × β)} {s : κ} (h : ∀ p ∈ L, p.1 ≠ s) : woS L s = L := by
  unfold woS
  exact List.filter_eq_self.2 (fun p hp => decide_eq_true (h p hp))
end Go.V
/- NA: keys of a map that are any struct: their cells. No project text. -/
namespace Go.V
open Go.RowKit Go.Maps Go.ChangeShapes Go.WideShapes Go.ChangeMaps
/-- cells that are a key of type k -/
structure KyG (P : Program) (k : TypeId) where
  cs : List Value
  h : cs.length = P.cellsOf k ∧ (P.keyLits (P.types.size + 1) k cs).isSome = true
noncomputable instance {P : Program} {k : TypeId} : DecidableEq (KyG P k) := fun _ _ => Classical.propDecidable _
def KyG.v {P : Program} {k : TypeId} (x : KyG P k) : Value := .agg x.cs.toArray
def KyG.l {P : Program} {k : TypeId} (x : KyG P k) : Lit := .string (keyBytes ((P.keyLits (P.types.size + 1) k x.cs).getD []))
theorem KyG.vi {P : Program} {k : TypeId} {x y : KyG P k} (h : x.v = y.v) : x = y := by
  unfold KyG.v at h
  injection h with h
  have h : x.cs = y.cs := by
    have := congrArg Array.toList h
    simpa using this
  cases x
  cases y
  cases h
  rfl
/-- k is a struct that may be a key -/
structure StKey (P : Program) (k : TypeId) : Prop where
  fs : ∃ f, P.underlying k = some (.struct f)
  kt : P.keyType k = true
  row : k < P.types.size
  laid : laidOutB P = true
  deep : P.keyTypeAt 3 k = true
variable {P : Program} {k : TypeId}
theorem StKey.kl (h : StKey P k) : WideMaps.KeyLaw P k := by
  obtain ⟨f, h1⟩ := h.fs
  exact deep_law_laid h.laid (m := 3) (by omega) h.row h.deep (by rw [h1])
theorem StKey.law (h : StKey P k) : Keyed P k := Keyed.of_law h.kl
theorem StKey.ko (h : StKey P k) (x : KyG P k) : keyOf P k x.v = some x.l := by
  obtain ⟨f, h1⟩ := h.fs
  obtain ⟨cs, hl, hs⟩ := x
  obtain ⟨ls, hls⟩ := Option.isSome_iff_exists.1 hs
  unfold keyOf
  rw [h1]
  dsimp only
  rw [h.kt]
  simp [KyG.v, KyG.l, Value.formed, h1, hl, Value.cells, hls]
theorem StKey.inv (h : StKey P k) {v : Value} {l : Lit} (hv : keyOf P k v = some l) : ∃ x : KyG P k, v = x.v := by
  obtain ⟨f, h1⟩ := h.fs
  unfold keyOf at hv
  rw [h1] at hv
  dsimp only at hv
  rw [h.kt, Bool.true_and] at hv
  split at hv
  · rename_i hf
    cases v <;> simp [Value.formed, h1] at hf
    rename_i cs
    obtain ⟨cs⟩ := cs
    simp only [Value.cells] at hv
    refine ⟨⟨cs, by simpa using hf, ?_⟩, rfl⟩
    cases hk : P.keyLits (P.types.size + 1) k cs with
    | none => simp [hk] at hv
    | some _ => rfl
  · cases hv
/-- maps by such keys -/
noncomputable def StKey.mk' (h : StKey P k) {β : Type} (V : World → (Nat → Prop) → Value → β → Prop)
    (keep : ∀ {w w' : World} {F F' : Nat → Prop} {v : Value} {d : β}, V w F v d → (∀ x, x < w.heap.size → F x → F' x ∧ w'.heap[x]? = w.heap[x]?) → V w' F' v d) : MK P k (KyG P k) β :=
  ⟨KyG.v, KyG.l, V, h.law, h.ko, h.inv, KyG.vi, keep⟩
/-! what is a key -/
theorem mapM_some {α β : Type} (f : α → Option β) : ∀ (l : List α), (∀ x ∈ l, (f x).isSome = true) → (l.mapM f).isSome = true
  | [], _ => rfl
  | x :: l, h => by
    obtain ⟨y, hy⟩ := Option.isSome_iff_exists.1 (h x (by simp))
    obtain ⟨ys, hys⟩ := Option.isSome_iff_exists.1 (mapM_some f l (fun z hz => h z (by simp [hz])))
    rw [List.mapM_cons, hy, hys]
    rfl
theorem lits_int (d : Nat) (t : TypeId) (q : IntKind) (n : Int) (h : P.underlying t = some (.int q)) (hw : (Lit.int q n).wf = true) : (P.keyLits (d + 1) t [.int q n]).isSome = true := by
  unfold Program.keyLits
  rw [h]
  simp [hw]
theorem lits_arr (d : Nat) (t e : TypeId) (n : Nat) (cs : List Value) (h : P.underlying t = some (.array n e)) (hl : cs.length = P.cellsOf t) (hc : P.cellsOf e = 1) (hn : n = cs.length) (he : ∀ v ∈ cs, (P.keyLits d e [v]).isSome = true) : (P.keyLits (d + 1) t cs).isSome = true := by
  unfold Program.keyLits
  rw [h]
  simp only [hl, if_true, Option.isSome_map]
  refine mapM_some _ _ (fun i hi => ?_)
  have hi := List.mem_range.1 hi
  have hi' : i < cs.length := by omega
  rw [hc, Nat.mul_one, List.drop_eq_getElem_cons hi']
  exact he _ (List.getElem_mem _)
theorem lits_st (d : Nat) (t : TypeId) (fs : Array Field) (cs : List Value) (h : P.underlying t = some (.struct fs)) (hl : cs.length = P.cellsOf t) (hn : fs.all (·.name != "_") = true) (he : ∀ f ∈ fs.toList, (P.keyLits d f.type ((cs.drop f.offset).take (P.cellsOf f.type))).isSome = true) : (P.keyLits (d + 1) t cs).isSome = true := by
  unfold Program.keyLits
  rw [h]
  simp only [hl, hn, and_self, if_true, Option.isSome_map]
  exact mapM_some _ _ he
theorem wfI {x : Int} (h1 : -9223372036854775808 ≤ x) (h2 : x ≤ 9223372036854775807) : (Lit.int .i64 x).wf = true := by
  show (decide (IntKind.i64.min ≤ x) && decide (x ≤ IntKind.i64.max)) = true
  rw [Bool.and_eq_true, decide_eq_true_iff, decide_eq_true_iff]
  exact ⟨h1, h2⟩
theorem wfU8 (b : UInt8) : (Lit.int .u8 (b.toNat : Int)).wf = true := by
  show (decide (IntKind.u8.min ≤ (b.toNat : Int)) && decide ((b.toNat : Int) ≤ IntKind.u8.max)) = true
  have := b.toNat_lt
  rw [Bool.and_eq_true, decide_eq_true_iff, decide_eq_true_iff]
  exact ⟨by show (0 : Int) ≤ _; omega, by show _ ≤ (255 : Int); omega⟩
/-- the key of these cells; any, if they are none -/
noncomputable def kyG (P : Program) (k : TypeId) [Inhabited (KyG P k)] (cs : List Value) : KyG P k :=
  open Classical in if h : cs.length = P.cellsOf k ∧ (P.keyLits (P.types.size + 1) k cs).isSome = true then ⟨cs, h⟩ else default
theorem kyG_v {P : Program} {k : TypeId} [Inhabited (KyG P k)] {cs : List Value} (h : cs.length = P.cellsOf k ∧ (P.keyLits (P.types.size + 1) k cs).isSome = true) : (kyG P k cs).v = .agg cs.toArray := by
  unfold kyG
  rw [dif_pos h]
  rfl
theorem kyG_eq {P : Program} {k : TypeId} [Inhabited (KyG P k)] {cs ds : List Value} (h : cs.length = P.cellsOf k ∧ (P.keyLits (P.types.size + 1) k cs).isSome = true) (h' : ds.length = P.cellsOf k ∧ (P.keyLits (P.types.size + 1) k ds).isSome = true) (e : kyG P k cs = kyG P k ds) : cs = ds := by
  unfold kyG at e
  rw [dif_pos h, dif_pos h'] at e
  exact congrArg KyG.cs e
theorem findS_put {κ β : Type} [DecidableEq κ] (L : List (κ × β)) (s t : κ) (d : β) : findS ((s, d) :: woS L s) t = if t = s then some d else findS L t := by
  unfold findS
  rw [List.find?_cons]
  by_cases h : t = s
  · subst h
    rw [if_pos rfl, decide_eq_true rfl]
    rfl
  · rw [if_neg h, decide_eq_false (fun e => h e.symm)]
    dsimp only
    unfold woS
    rw [List.find?_filter]
    congr 2
    funext p
    by_cases hp : p.1 = t
    · rw [hp]; simp [h]
    · simp [hp]
theorem findS_mem {κ β : Type} [DecidableEq κ] {L : List (κ × β)} {s : κ} {d : β} (h : findS L s = some d) : (s, d) ∈ L := by
  unfold findS at h
  obtain ⟨p, hp, rfl⟩ := Option.map_eq_some_iff.1 h
  have := of_decide_eq_true (List.find?_some (p := fun p : κ × β => decide (p.1 = s)) hp)
  subst this
  exact List.mem_of_find?_eq_some hp
theorem findS_uq {κ β : Type} [DecidableEq κ] : ∀ {L : List (κ × β)}, (L.map (·.1)).Nodup → ∀ {p : κ × β}, p ∈ L → findS L p.1 = some p.2
  | q :: L, hu, p, hp => by
    rw [List.map_cons, List.nodup_cons] at hu
    unfold findS
    rw [List.find?_cons]
    rcases List.mem_cons.1 hp with rfl | hp
    · rw [decide_eq_true rfl]; rfl
    · rw [decide_eq_false (fun e => hu.1 (List.mem_map.2 ⟨p, hp, e.symm⟩))]
      exact findS_uq hu.2 hp
/-! 'm[k] op= v': the entry, then the store -/
section
variable {κ β : Type} [DecidableEq κ] {T : MK P k κ β} {w : World} {F : Nat → Prop} {b : Nat} {L : List (κ × β)}
variable {ops : Array Oper} {o : Oper} {a : Act} {Q : Exit → Act → World → Prop} {K : Act → World → Prop} {E : Prop}
theorem MpS.run_entry (hk : WideMaps.KeyLaw P k) (h : MpS T w F b L) (t e : TypeId) (ht : P.underlying t = some (.map k e)) {z : Value} (hz : ∀ u : World, (zeroValue e).run P u = .ok z u) {z0 : β} (hz0 : T.V w F z z0) (hL : L.length < maxLen) (hF : ¬ F b) (s : κ) :
    ∃ (v : Value) (st : Nat) (w1 : World) (L1 : List (κ × β)), (Instr.mapEntry t (.map (some b)) (T.kv s)).run P w = .ok (.tuple #[v, goInt st]) w1 ∧ MpS T w1 F b L1 ∧ findS L1 s = some ((findS L s).getD z0) ∧ w.grownBy w1 (some b) ∧ w.heap.size = w1.heap.size ∧
      ∀ (w2 : World) (val : Value) (d : β), w2.heap[b]? = w1.heap[b]? → (∀ x, x < w.heap.size → F x → w2.heap[x]? = w.heap[x]?) → T.V w F val d → ∃ w3, (Instr.entryStore t (.map (some b)) (goInt st) val).run P w2 = .ok () w3 ∧ MpS T w3 F b ((s, d) :: woS L s) ∧ w2.grownBy w3 (some b) ∧ w2.heap.size = w3.heap.size := by
  obtain ⟨l, es0, h1, ⟨es, clock, hb, Fi, hs, hD⟩, hp, h5⟩ := id h
  have hkey := T.ko s
  obtain ⟨v0, st, es1, clock1, hrun, _, hsto⟩ := WideElems.entry_then_store hk ht hz hb Fi hkey
  have hg1 : w.grownBy (setBlock w b (.map es1 clock1)) (some b) := (show w.mapTurned (setBlock w b (.map es1 clock1)) b from ⟨es, clock, es1, clock1, hb, rfl⟩).grown
  have hlook := h.run_look t e true ht (hz w) s
  have hmid : ∃ L1, MpS T (setBlock w b (.map es1 clock1)) F b L1 ∧ findS L1 s = some ((findS L s).getD z0) := by
    rcases hk.find w hkey es.toList Fi.keys with ⟨g1, g2⟩ | ⟨j, e0, g1, g2, g3⟩
    · have r1 : (Instr.mapEntry t (.map (some b)) (T.kv s)).run P w = .ok (.tuple #[z, goInt clock]) (setBlock w b (.map (es.push ⟨T.kv s, z, clock⟩) (clock + 1))) := by
        simp [Instr.mapEntry, run_underlying ht, MapKept.run_getObj_map hb, hk.check w false hkey, g1, hz, MapKept.run_setObj_map _ hb, Result.andThen, setBlock]
      have r2 : (Instr.mapUpdate t (.map (some b)) (T.kv s) z).run P w = .ok () (setBlock w b (.map (es.push ⟨T.kv s, z, clock⟩) (clock + 1))) := by
        simp [Instr.mapUpdate, run_underlying ht, MapKept.run_getObj_map hb, hk.check w false hkey, g1, MapKept.run_setObj_map _ hb, Result.andThen, setBlock]
      have r3 : (Instr.lookup t (.map (some b)) (T.kv s) true).run P w = .ok (.tuple #[z, .bool false]) w := by
        simp [Instr.lookup, run_underlying ht, MapKept.run_getObj_map hb, hk.check w es.isEmpty hkey, g1, hz, Result.andThen]
      rw [hrun] at r1
      injection r1 with _ e1
      obtain ⟨w', q1, q2, _⟩ := h.run_put t e ht hL s hz0 hF
      rw [r2] at q1
      injection q1 with _ q1
      rw [e1, q1]
      rcases hlook with ⟨hn, _⟩ | ⟨d, v, _, _, hv⟩
      · exact ⟨_, q2, by rw [findS_put, if_pos rfl, hn]; rfl⟩
      · rw [r3] at hv
        simp at hv
    · have hj : es[j]? = some e0 := by simpa using g2
      have hsame : es.modify j (fun e => { e with key := T.kv s }) = es := by
        apply Array.ext'
        rw [Array.toList_modify, ChangeMaps.modify_eq_set _ _ _ _ g2]
        have : ({ e0 with key := T.kv s } : MapEntry) = e0 := by rw [← g3]
        rw [this]
        exact WideElems.set_self _ _ _ g2
      have r1 : (Instr.mapEntry t (.map (some b)) (T.kv s)).run P w = .ok (.tuple #[e0.val, goInt e0.born]) (setBlock w b (.map es clock)) := by
        simp [Instr.mapEntry, run_underlying ht, MapKept.run_getObj_map hb, hk.check w false hkey, g1, hj, g3, hk.stays w hkey, hsame, MapKept.run_setObj_map _ hb, Result.andThen, setBlock]
      have r3 : (Instr.lookup t (.map (some b)) (T.kv s) true).run P w = .ok (.tuple #[e0.val, .bool true]) w := by
        simp [Instr.lookup, run_underlying ht, MapKept.run_getObj_map hb, hk.check w es.isEmpty hkey, g1, Result.andThen]
      rw [hrun] at r1
      injection r1 with _ e1
      rw [e1]
      have hkp : MpS T (setBlock w b (.map es clock)) F b L := h.keep ((heap_setBlock_same hb _).trans hb.symm) (fun x hx hf => ⟨hf, (show w.mapTurned (setBlock w b (.map es clock)) b from ⟨es, clock, es, clock, hb, rfl⟩).grown.block x hx (fun e => by injection e with e; subst e; exact hF hf)⟩)
      rcases hlook with ⟨_, hv⟩ | ⟨d, v, hd, _, _⟩
      · rw [r3] at hv
        simp at hv
      · exact ⟨_, hkp, by rw [hd]; rfl⟩
  obtain ⟨L1, hm1, hm2⟩ := hmid
  refine ⟨v0, st, _, L1, hrun, hm1, hm2, hg1, by simp [setBlock], fun w2 val d hb2 hF2 hv => ?_⟩
  have hbw : (setBlock w b (.map es1 clock1)).heap[b]? = some (.map es1 clock1) := heap_setBlock_same hb _
  obtain ⟨es', clock', r1, r2⟩ := hsto w2 val (hb2.trans hbw)
  obtain ⟨w', q1, q2, _, _⟩ := h.run_put t e ht hL s hv hF
  rw [r2] at q1
  injection q1 with _ q1
  rw [← q1] at q2
  have hb3 : w2.heap[b]? = some (.map es1 clock1) := hb2.trans hbw
  have hg3 : w2.grownBy (setBlock w2 b (.map es' clock')) (some b) := (show w2.mapTurned (setBlock w2 b (.map es' clock')) b from ⟨es1, clock1, es', clock', hb3, rfl⟩).grown
  refine ⟨_, r1, q2.keep ((heap_setBlock_same hb3 _).trans (heap_setBlock_same hb _).symm) (fun x hx hf => ⟨hf, ?_⟩), hg3, by simp [setBlock]⟩
  have hx' : x < w.heap.size := by simpa [setBlock] using hx
  have hne : b ≠ x := fun e => hF (e ▸ hf)
  have e1 := hF2 x hx' hf
  have e2 : (setBlock w b (.map es' clock')).heap[x]? = w.heap[x]? := (show w.mapTurned (setBlock w b (.map es' clock')) b from ⟨es, clock, es', clock', hb, rfl⟩).grown.block x hx' (fun e => by injection e with e; exact hne e.symm)
  have hx2 : x < w2.heap.size := (Array.getElem?_eq_some_iff.1 (e1.trans (Array.getElem?_eq_getElem hx'))).1
  have e3 : (setBlock w2 b (.map es' clock')).heap[x]? = w2.heap[x]? := hg3.block x hx2 (fun e => by injection e with e; exact hne e.symm)
  rw [e3, e1, e2]
omit [DecidableEq κ] in
/-- the entry, in a region that draws its order -/
theorem step_entryS {s : κ} {v : Value} {st : Nat} {w1 : World} (t : TypeId) (m x : Operand) (hgd : o.guard = none) (ho : o.op = .mapEntry t m x) (hm : a.eval m = .map (some b)) (hx : a.eval x = T.kv s)
    (hrun : (Instr.mapEntry t (.map (some b)) (T.kv s)).run P w = .ok (.tuple #[v, goInt st]) w1) (h : K (a.put o.dst (.tuple #[v, goInt st])) w1) : if Region.wanted o (yielded ops a.tmps) = true then Oper.wp P o a w K Q else E := by
  have hw : Region.wanted o (yielded ops a.tmps) = true := by simp [Region.wanted, hgd]
  rw [if_pos hw]
  unfold Oper.wp execOp
  simp only [ho, hm, hx, Sem.run_bind, Sem.run_pure, hrun, Result.andThen_ok]
  exact h
omit [DecidableEq κ] in
/-- the store -/
theorem step_estoreS {st : Nat} {val : Value} {w3 : World} (t : TypeId) (m x y : Operand) (hgd : o.guard = none) (ho : o.op = .entryStore t m x y) (hm : a.eval m = .map (some b)) (hx : a.eval x = goInt st) (hy : a.eval y = val)
    (hrun : (Instr.entryStore t (.map (some b)) (goInt st) val).run P w = .ok () w3) (h : K (a.put o.dst undef) w3) : if Region.wanted o (yielded ops a.tmps) = true then Oper.wp P o a w K Q else E := by
  have hw : Region.wanted o (yielded ops a.tmps) = true := by simp [Region.wanted, hgd]
  rw [if_pos hw]
  unfold Oper.wp execOp
  simp only [ho, hm, hx, hy, Sem.run_bind, Sem.run_pure, hrun, Result.andThen_ok]
  exact h
omit [DecidableEq κ] in
/-- 'm[s]', where all worlds that may be agree on it -/
theorem y_look {S : World → Prop} (t : TypeId) (m x : Operand) (hw : Region.wanted o (yielded ops a.tmps) = true) (ho : o.op = .lookup t m x false) {s : κ} {u v : Value} (hm : a.eval m = .map (some b)) (hx : a.eval x = u) (hu : u = T.kv s)
    (hS : ∀ W, S W → (Instr.lookup t (.map (some b)) (T.kv s) false).run P W = .ok v W) : YieldsIf P ops S o v a :=
  .inl ⟨hw, fun W hW => by
    unfold execOp
    simp only [ho, hm, hx, hu, Sem.run_bind, Sem.run_pure, hS W hW, Result.andThen_ok]⟩
end
section
variable {P : Program} {w : World} {ops : Array Oper} {o : Oper} {a : Act} {K : Act → World → Prop} {Q : Exit → Act → World → Prop} {E : Prop}
/-- '[]T{x}', in a region that draws its order -/
theorem step_bs18 {t e : TypeId} {z : Value} {by_ : Nat} (ht : SlT P t e z by_) (x : Operand) (hgd : o.guard = none) (ho : o.op = .buildSlice t 1 #[(0, x)]) {u : Value} (hx : a.eval x = u) (huc : u.cells = #[u])
    (h : ∀ g w', g = w.heap.size → Blk w' g e [u] → Below w.heap.size w w' → K (a.put o.dst (.slice (some ⟨g, 0, none⟩) 1 1)) w') : if Region.wanted o (yielded ops a.tmps) = true then Oper.wp P o a w K Q else E := by
  have hw : Region.wanted o (yielded ops a.tmps) = true := by simp [Region.wanted, hgd]
  rw [if_pos hw]
  have e1 : (Array.map (fun (x : Nat × Operand) => (x.1, a.eval x.2)) #[(0, x)]) = #[(0, u)] := by simp [hx]
  unfold Oper.wp execOp
  simp only [ho, e1, Sem.run_bind, Sem.run_pure, run_buildSlice1 (P := P) (w := w) t e z u by_ ht huc, Result.andThen_ok]
  exact h _ _ rfl (Blk.new' w e [u]) ((Below.refl _ _).alloc (Nat.le_refl _) _)
/-- append, in a region that draws its order; where the row lies then is told -/
theorem step_app18 (s x : Operand) {t e : TypeId} {z : Value} {by_ : Nat} (ht : SlT P t e z by_) (hgd : o.guard = none)
    (ho : o.op = .call { callee := .builtin .append, args := #[s, x], argTypes := #[t, t] })
    {base : Nat} {v : Value} {n : Nat} {xs : List Value} (hs : a.eval s = v) (hown : w.ownsRow base e 1 v n xs)
    {A : Option Addr} {m c : Nat} {news : List Value} (hx : a.eval x = .slice A m c) (hsrc : Src w A m news) (h1 : ∀ u ∈ news, u.oneCell' = true)
    (h63 : n + m ≤ maxLen) (hb : (n + m) * by_ ≤ 140737488355328) (hbase : base ≤ w.heap.size)
    (h : ∀ v' w', w'.ownsRow base e 1 v' (n + m) (xs ++ news) → w.grownBy w' v.ownBlock → (v'.ownBlock = v.ownBlock ∨ v'.ownBlock = some w.heap.size) → K (a.put o.dst v') w') :
    if Region.wanted o (yielded ops a.tmps) = true then Oper.wp P o a w K Q else E := by
  have hw : Region.wanted o (yielded ops a.tmps) = true := by simp [Region.wanted, hgd]
  rw [if_pos hw]
  obtain ⟨v', w', hr, h2, h3, h4⟩ := run_append_src (P := P) base t o.type e z by_ ht v n xs hown A m c news hsrc h1 h63 hb hbase
  unfold Oper.wp execOp
  simp only [ho, resolve, invoke, builtin, Sem.run_bind, Sem.run_pure, Result.andThen_ok, List.map_toArray, List.map_cons, List.map_nil, hs, hx, hr]
  exact h v' w' h2 h3 h4
end
end Go.V
/- VH: digests as cells. -/
namespace Go.Proofs.YthbbpfnfnnmdnaaDoor
open Go.RowKit Go.V
theorem len_bvs (bs : List UInt8) : (bvs bs).length = bs.length := by simp [bvs]
theorem bvs_at (l : List UInt8) (k : Nat) (x : UInt8) (h : l[k]? = some x) : (bvs l)[k]? = some (byteV x) := by simp [bvs, h]
theorem size25 : (Tryd.prog.info? 41).map (·.size) = some 32 := by kernel_rfl
theorem size8 : (Tryd.prog.info? 5).map (·.size) = some 1 := by kernel_rfl
def zs8 (n : Nat) : List Value := List.replicate n (.int .u8 0)
theorem zero25 : (Tryd.prog.info? 41).map (·.zero) = some (some (.agg (zs8 32).toArray)) := by kernel_rfl
/-- 32 bytes, the first k of l, the rest noughts -/
def part32 (l : List UInt8) (k : Nat) : List Value := (bvs l).take k ++ List.replicate (32 - k) (.int .u8 0)
theorem part32_0 (l : List UInt8) : part32 l 0 = List.replicate 32 (.int .u8 0) := by simp [part32]
theorem part32_len (l : List UInt8) (k : Nat) (hl : l.length = 32) (hk : k ≤ 32) : (part32 l k).length = 32 := by simp [part32, len_bvs, hl]; omega
theorem part32_set (l : List UInt8) (k : Nat) (hl : l.length = 32) (hk : k < 32) (c : UInt8) (hc : l[k]? = some c) : (part32 l k).set k (byteV c) = part32 l (k + 1) :=
  fill_set _ _ 32 k (by rw [len_bvs, hl]) hk _ (bvs_at l k c hc)
theorem part32_end (l : List UInt8) (hl : l.length = 32) : part32 l 32 = bvs l := by simp [part32, List.take_of_length_le, len_bvs, hl]
end Go.Proofs.YthbbpfnfnnmdnaaDoor
