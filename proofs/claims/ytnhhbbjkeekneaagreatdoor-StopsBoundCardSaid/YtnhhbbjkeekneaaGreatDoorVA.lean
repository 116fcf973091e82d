/- VA: several texts in one. -/
import Derived.Test.YtnhhbbjkeekneaaGreatDoorV
import Derived.Laws.BitsAllLaws
import Derived.Deep.MidRow
import Derived.Deep.WholeRow
import Derived.Deep.RegionHeld3
import Derived.Great.BuildSlice
import Derived.Still
/- VA: arrays in blocks that are known whole: words and laws. No project text. -/
namespace Go.V
open Go.RowKit

/-- block g holds the cells cs -/
def Blk (w : World) (g : Nat) (t : TypeId) (cs : List Value) : Prop := w.heap[g]? = some (.cells cs.toArray t (0, 0))
section
variable {w w' : World} {g : Nat} {t : TypeId} {cs : List Value}
theorem Blk.lt (h : Blk w g t cs) : g < w.heap.size := lt_of_block h
theorem Blk.keep (h : Blk w g t cs) (hc : w'.heap[g]? = w.heap[g]?) : Blk w' g t cs := hc.trans h
theorem Blk.ch {G : Nat → Prop} (h : Blk w g t cs) (hc : Ch G w w') (hg : ¬ G g) : Blk w' g t cs := h.keep (hc.block g h.lt hg)
theorem Blk.below (h : Blk w g t cs) (hB : Below w.heap.size w w') : Blk w' g t cs := h.keep (hB.block g h.lt)
theorem Blk.drew (h : Blk w g t cs) : Blk w.drew g t cs := h
theorem Blk.drewN (h : Blk w g t cs) (n : Nat) : Blk (w.drewN n) g t cs := h
theorem Blk.alloc (h : Blk w g t cs) (o : Obj) : Blk (w.alloc o) g t cs := heap_alloc_same w o g _ h
theorem Blk.new (w : World) (t : TypeId) (arr : Array Value) : Blk (w.alloc (.cells arr t)) w.heap.size t arr.toList := by
  unfold Blk; simpa using heap_alloc_new w (.cells arr t)
theorem Blk.new' (w : World) (t : TypeId) (l : List Value) : Blk (w.alloc (.cells l.toArray t)) w.heap.size t l := heap_alloc_new w _
theorem Blk.cell (h : Blk w g t cs) (j : Nat) : w.cell? ⟨g, j, none⟩ = cs[j]? := by
  unfold Blk at h
  simp [World.cell?, h]
theorem Blk.cellAt (h : Blk w g t cs) (j : Nat) (v : Value) (hv : cs[j]? = some v) : w.cell? ⟨g, j, none⟩ = some v := (h.cell j).trans hv
theorem Blk.frz (h : Blk w g t cs) (j : Nat) : w.frozen? ⟨g, j, none⟩ = false := by
  unfold Blk at h
  simp [World.frozen?, h]
theorem Blk.range (h : Blk w g t cs) (o : Nat) (l : List Value) (hl : ∀ j v, l[j]? = some v → cs[o + j]? = some v) : w.rangeAt g o l := fun j v hv => h.cellAt _ v (hl j v hv)
theorem Blk.whole (h : Blk w g t cs) : w.rangeAt g 0 cs := h.range 0 cs (fun j v hv => by rw [Nat.zero_add]; exact hv)
theorem Blk.row (h : Blk w g t cs) (cs' : List Value) : Blk (w.setRow g cs'.toArray) g t cs' := setRow_heap w g _ _ t _ h
theorem Blk.rd (h : Blk w g t cs) {F : Nat → Prop} (hF : F g) {bs : List UInt8} (hc : cs = bvs bs) (c : Nat) (hc1 : bs.length ≤ c) (hc2 : c ≤ maxLen) : Rd w F (.slice (some ⟨g, 0, none⟩) bs.length c) (bys bs) := by
  unfold bys Rd
  refine ⟨_, c, rfl, hc1, hc2, fun h0 => by rw [List.eq_nil_of_length_eq_zero h0]; rfl, fun _ => ⟨_, _, rfl, hF, RdC.of_bytes fun j u hu => ?_⟩⟩
  rw [Nat.zero_add]
  exact h.cellAt j u (by rw [hc]; exact hu)
end
section
variable {P : Program} {w : World} {ops : Array Oper} {rest : List Oper} {o : Oper} {a : Act} {Q : Exit → Act → World → Prop}
/-- a whole array or struct out of the midst of a block -/
theorem wp_ld (ty : TypeId) (x : Operand) (hgd : o.guard = none) (ho : o.op = .load ty x) {b f : Nat} (hx : a.eval x = .pointer (some ⟨b, f, none⟩)) {l : List Value} (hr : w.rangeAt b f l)
    {d : TypeDesc} (hu : P.underlying ty = some d) (hd : d.isRow = true) (hi : (P.info? ty).map (·.size) = some l.length)
    (h : wpList P ops Q rest (a.put o.dst (.agg l.toArray)) w) : wpList P ops Q (o :: rest) a w :=
  wpList_load_mid hgd ty x ho b f hx l d hr hu hd hi h
/-- a whole array or struct into the midst of a block -/
theorem wp_st (ty : TypeId) (x y : Operand) (hgd : o.guard = none) (ho : o.op = .store ty x y) (hdst : o.dst = none) {b f : Nat} (hx : a.eval x = .pointer (some ⟨b, f, none⟩)) {l : List Value} (hy : a.eval y = .agg l.toArray)
    {t : TypeId} {cs : List Value} (hb : Blk w b t cs) (hfit : f + l.length ≤ cs.length) (hi : (P.info? ty).map (·.size) = some l.length) (h1 : ∀ v ∈ l, v.oneCell' = true)
    (h : ∀ w', Blk w' b t (cs.take f ++ l ++ cs.drop (f + l.length)) → w.grownBy w' (some b) → wpList P ops Q rest a w') : wpList P ops Q (o :: rest) a w := by
  refine wpList_plain hgd fun K hK => ?_
  have hs : (storeVar ty ⟨b, f, none⟩ (.agg l.toArray)).run P w = .ok () (w.setRow b (cs.take f ++ l ++ cs.drop (f + l.length)).toArray) := by
    have := run_storeCells_at P b f t l 0 cs.toArray w hb (by simpa using hfit) h1
    cases hq : P.info? ty with
    | none => simp [hq] at hi
    | some i =>
      have hs : l.length = i.size := by simp [hq] at hi; omega
      simp only [Nat.add_zero] at this
      simp [storeVar, sizeOf, typeInfo, hq, Value.cells, hs]
      simpa [hs] using this
  unfold Oper.wp execOp
  simp only [ho, hx, hy, Instr.storeAt, Instr.sureAddr, Sem.run_bind, Sem.run_pure, Result.andThen_ok, hs]
  have := h _ (hb.row _) (grown_setRow w b _)
  refine hK _ _ ?_
  rw [hdst]
  exact this
/-- the load, in a region that draws its order -/
theorem step_ld {K : Act → World → Prop} {E : Prop} (ty : TypeId) (x : Operand) (hgd : o.guard = none) (ho : o.op = .load ty x) {b f : Nat} (hx : a.eval x = .pointer (some ⟨b, f, none⟩)) {l : List Value} (hr : w.rangeAt b f l)
    {d : TypeDesc} (hu : P.underlying ty = some d) (hd : d.isRow = true) (hi : (P.info? ty).map (·.size) = some l.length)
    (h : K (a.put o.dst (.agg l.toArray)) w) : if Region.wanted o (yielded ops a.tmps) = true then Oper.wp P o a w K Q else E := by
  have hw : Region.wanted o (yielded ops a.tmps) = true := by simp [Region.wanted, hgd]
  rw [if_pos hw]
  exact wp_load_mid ty x ho b f hx l d hr hu hd hi h
/-- the same, in a region that draws its order -/
theorem step_st {K : Act → World → Prop} {E : Prop} (ty : TypeId) (x y : Operand) (hgd : o.guard = none) (ho : o.op = .store ty x y) (hdst : o.dst = none) {b f : Nat} (hx : a.eval x = .pointer (some ⟨b, f, none⟩)) {l : List Value} (hy : a.eval y = .agg l.toArray)
    {t : TypeId} {cs : List Value} (hb : Blk w b t cs) (hfit : f + l.length ≤ cs.length) (hi : (P.info? ty).map (·.size) = some l.length) (h1 : ∀ v ∈ l, v.oneCell' = true)
    (h : ∀ w', Blk w' b t (cs.take f ++ l ++ cs.drop (f + l.length)) → w.grownBy w' (some b) → K a w') : if Region.wanted o (yielded ops a.tmps) = true then Oper.wp P o a w K Q else E := by
  have hw : Region.wanted o (yielded ops a.tmps) = true := by simp [Region.wanted, hgd]
  rw [if_pos hw]
  have hs : (storeVar ty ⟨b, f, none⟩ (.agg l.toArray)).run P w = .ok () (w.setRow b (cs.take f ++ l ++ cs.drop (f + l.length)).toArray) := by
    have := run_storeCells_at P b f t l 0 cs.toArray w hb (by simpa using hfit) h1
    cases hq : P.info? ty with
    | none => simp [hq] at hi
    | some i =>
      have hs : l.length = i.size := by simp [hq] at hi; omega
      simp only [Nat.add_zero] at this
      simp [storeVar, sizeOf, typeInfo, hq, Value.cells, hs]
      simpa [hs] using this
  unfold Oper.wp execOp
  simp only [ho, hx, hy, Instr.storeAt, Instr.sureAddr, Sem.run_bind, Sem.run_pure, Result.andThen_ok, hs]
  have := h _ (hb.row _) (grown_setRow w b _)
  show K _ _
  rw [hdst]
  exact this
/-- one cell into a block -/
theorem wp_st1 (ty : TypeId) (x y : Operand) (hgd : o.guard = none) (ho : o.op = .store ty x y) (hdst : o.dst = none) {b f : Nat} (hx : a.eval x = .pointer (some ⟨b, f, none⟩)) {v : Value} (hy : a.eval y = v)
    {t : TypeId} {cs : List Value} (hb : Blk w b t cs) (hfit : f < cs.length) (hi : (P.info? ty).map (·.size) = some 1) (hv : v.oneCell' = true) (hvc : v.cells = #[v])
    (h : ∀ w', Blk w' b t (cs.set f v) → w.grownBy w' (some b) → wpList P ops Q rest a w') : wpList P ops Q (o :: rest) a w := by
  refine wpList_plain hgd fun K hK => ?_
  have hs : (storeVar ty ⟨b, f, none⟩ v).run P w = .ok () (w.setRow b (cs.set f v).toArray) := by
    have := run_storeCells_at P b f t [v] 0 cs.toArray w hb (by simp; omega) (by intro u hu; simp at hu; subst hu; exact hv)
    cases hq : P.info? ty with
    | none => simp [hq] at hi
    | some i =>
      have hs : i.size = 1 := by simpa [hq] using hi
      simp only [Nat.add_zero] at this
      have e : cs.take f ++ [v] ++ cs.drop (f + 1) = cs.set f v := by rw [List.set_eq_take_append_cons_drop, if_pos hfit]; simp
      simp [storeVar, sizeOf, typeInfo, hq, hvc, hs]
      simpa [← e] using this
  unfold Oper.wp execOp
  simp only [ho, hx, hy, Instr.storeAt, Instr.sureAddr, Sem.run_bind, Sem.run_pure, Result.andThen_ok, hs]
  refine hK _ _ ?_
  rw [hdst]
  exact h _ (hb.row _) (grown_setRow w b _)
theorem step_st1 {P : Program} {w : World} {ops : Array Oper} {o : Oper} {a : Act} {Q : Exit → Act → World → Prop} {K : Act → World → Prop} {E : Prop} (ty : TypeId) (x y : Operand) (hgd : o.guard = none) (ho : o.op = .store ty x y) (hdst : o.dst = none) {b f : Nat} (hx : a.eval x = .pointer (some ⟨b, f, none⟩)) {v : Value} (hy : a.eval y = v)
    {t : TypeId} {cs : List Value} (hb : Blk w b t cs) (hfit : f < cs.length) (hi : (P.info? ty).map (·.size) = some 1) (hv : v.oneCell' = true) (hvc : v.cells = #[v])
    (h : ∀ w', Blk w' b t (cs.set f v) → w.grownBy w' (some b) → K a w') : if Region.wanted o (yielded ops a.tmps) = true then Oper.wp P o a w K Q else E := by
  have hw : Region.wanted o (yielded ops a.tmps) = true := by simp [Region.wanted, hgd]
  rw [if_pos hw]
  have hs : (storeVar ty ⟨b, f, none⟩ v).run P w = .ok () (w.setRow b (cs.set f v).toArray) := by
    have := run_storeCells_at P b f t [v] 0 cs.toArray w hb (by simp; omega) (by intro u hu; simp at hu; subst hu; exact hv)
    cases hq : P.info? ty with
    | none => simp [hq] at hi
    | some i =>
      have hs : i.size = 1 := by simpa [hq] using hi
      simp only [Nat.add_zero] at this
      have e : cs.take f ++ [v] ++ cs.drop (f + 1) = cs.set f v := by rw [List.set_eq_take_append_cons_drop, if_pos hfit]; simp
      simp [storeVar, sizeOf, typeInfo, hq, hvc, hs]
      simpa [← e] using this
  unfold Oper.wp execOp
  simp only [ho, hx, hy, Instr.storeAt, Instr.sureAddr, Sem.run_bind, Sem.run_pure, Result.andThen_ok, hs]
  have := h _ (hb.row _) (grown_setRow w b _)
  show K _ _
  rw [hdst]
  exact this
theorem step_ld1 {P : Program} {w : World} {ops : Array Oper} {o : Oper} {a : Act} {Q : Exit → Act → World → Prop} {K : Act → World → Prop} {E : Prop} (ty : TypeId) (x : Operand) (hgd : o.guard = none) (ho : o.op = .load ty x) {ad : Addr} (hx : a.eval x = .pointer (some ad)) {v : Value} (hc : w.cell? ad = some v)
    (hag : ∀ W : World, (isAgg ty).run P W = .ok false W)
    (h : K (a.put o.dst v) w) : if Region.wanted o (yielded ops a.tmps) = true then Oper.wp P o a w K Q else E := by
  have hw : Region.wanted o (yielded ops a.tmps) = true := by simp [Region.wanted, hgd]
  rw [if_pos hw]
  have hr : (Instr.loadAt ty (.pointer (some ad))).run P w = .ok v w := by
    simp [Instr.loadAt, Instr.sureAddr, loadVar, hag, hc]
  unfold Oper.wp execOp
  simp only [ho, hx, Sem.run_bind, Sem.run_pure, hr, Result.andThen_ok]
  exact h
/-- a new variable of an array's or a struct's type -/
theorem wp_new (t : TypeId) (hgd : o.guard = none) (ho : o.op = .alloc t) {z : List Value} (hz : (P.info? t).map (·.zero) = some (some (.agg z.toArray)))
    (h : wpList P ops Q rest (a.put o.dst (.pointer (some ⟨w.heap.size, 0, none⟩))) (w.alloc (.cells z.toArray t))) : wpList P ops Q (o :: rest) a w := by
  refine wpList_plain hgd fun K hK => ?_
  cases hq : P.info? t with
  | none => simp [hq] at hz
  | some i =>
    have hz' : i.zero = some (.agg z.toArray) := by simpa [hq] using hz
    have hr : (Instr.alloc t true (.tuple #[])).run P w = .ok (.pointer (some ⟨w.heap.size, 0, none⟩)) (w.alloc (.cells z.toArray t)) := by
      simp [Instr.alloc, zeroValue, typeInfo, hq, hz', newVar, newRow, Value.cells]
    unfold Oper.wp execOp
    simp only [ho, Sem.run_bind, Sem.run_pure, hr, Result.andThen_ok]
    exact hK _ _ h
/-- a composite value, what it comes to said by an equation -/
theorem wp_bld (t : TypeId) (parts : List (Nat × Operand)) (hgd : o.guard = none) (ho : o.op = .build t parts.toArray) (vs : List (Nat × Value)) (hp : (parts.map fun x => (x.1, a.eval x.2)) = vs) {cells : Array Value} (hr : ∀ W : World, (Instr.build t vs.toArray).run P W = .ok (.agg cells) W)
    (h : wpList P ops Q rest (a.put o.dst (.agg cells)) w) : wpList P ops Q (o :: rest) a w := by
  refine wpList_plain hgd fun K hK => ?_
  have e : (parts.toArray.map fun (i, x) => (i, a.eval x)) = vs.toArray := by rw [List.map_toArray, ← hp]
  unfold Oper.wp execOp
  simp only [ho, e, Sem.run_bind, Sem.run_pure, hr, Result.andThen_ok]
  exact hK _ _ h
/-- an element of an array value -/
theorem wp_idx (t : TypeId) (x y : Operand) (hgd : o.guard = none) (ho : o.op = .index t x y) {l : List Value} (hx : a.eval x = .agg l.toArray) {k : Nat} (hy : a.eval y = .int .i64 (k : Int))
    {n : Nat} {e : TypeId} (hu : P.underlying t = some (.array n e)) (hn : k < n) (hag : ∀ W : World, (isAgg e).run P W = .ok false W) (hsz : (P.info? e).map (·.size) = some 1) {v : Value} (hv : l[k]? = some v)
    (h : wpList P ops Q rest (a.put o.dst v) w) : wpList P ops Q (o :: rest) a w := by
  refine wpList_plain hgd fun K hK => ?_
  cases hq : P.info? e with
  | none => simp [hq] at hsz
  | some i =>
    have hi : i.size = 1 := by simpa [hq] using hsz
    have hr : (Instr.index t (.agg l.toArray) (.int .i64 (k : Int))).run P w = .ok v w := by
      simp [Instr.index, asIntOf, run_underlying hu, sizeOf, typeInfo, hq, hi, hn, part, hag, hv]
    unfold Oper.wp execOp
    simp only [ho, hx, hy, Sem.run_bind, Sem.run_pure, hr, Result.andThen_ok]
    exact hK _ _ h
end
/-- the end of a function whose result lies in a cell -/
theorem ret_cell {P : Program} {fn : Func} {R : Ending → World → Prop} {a : Act} {w : World} {p : Tmp} {ty : TypeId} (hf : fn.results = #[.cell p ty]) {b f : Nat} (hp : a.tmps.getD p undef = .pointer (some ⟨b, f, none⟩)) {l : List Value} (hr : w.rangeAt b f l)
    {d : TypeDesc} (hu : P.underlying ty = some d) (hd : d.isRow = true) (hi : (P.info? ty).map (·.size) = some l.length) (hdf : a.defers = []) (h : R (.returned (.agg l.toArray)) w) : bodyPost P fn R .ret a w := by
  refine bodyPost_ret (v := .agg l.toArray) ?_ hdf h
  have hp' : a.tmps[p]?.getD undef = .pointer (some ⟨b, f, none⟩) := by simpa using hp
  simp [results, hf, hp', asAddr, run_loadVar_mid w b f ty l d hr hu hd hi]
section
variable {P : Program} {t e : TypeId} {n : Nat} (hu : P.underlying t = some (.array n e)) (hsz : (P.info? e).map (·.size) = some 1)
include hu hsz
/-- 'a[l:]' of an array -/
theorem run_sla_l (b f l : Nat) (k : IntKind) (x : Int) (hx : x = l) (hl : l < n) (W : World) :
    (Instr.sliceAt t (.pointer (some ⟨b, f, none⟩)) (some (.int k x)) none none).run P W = .ok (.slice (some ⟨b, f + l, none⟩) (n - l) (n - l)) W := by
  subst hx
  cases hq : P.info? e with
  | none => simp [hq] at hsz
  | some i =>
    have hi : i.size = 1 := by simpa [hq] using hsz
    have h1 : (0 : Int) ≤ (l : Int) ∧ (l : Int) ≤ (n : Int) := by omega
    have h2 : ¬ n = l := by omega
    simp [Instr.sliceAt, run_underlying hu, Instr.sureAddr, Instr.sliceBounds, Instr.sliceBound, asIntOf, h1, sizeOf, typeInfo, hq, hi, h2, add_mk]
    intro hh
    exact absurd hh (by omega)
/-- 'a[:h]' of an array -/
theorem run_sla_h (b f h : Nat) (k : IntKind) (x : Int) (hx : x = h) (hl : h ≤ n) (hn : 0 < n) (W : World) :
    (Instr.sliceAt t (.pointer (some ⟨b, f, none⟩)) none (some (.int k x)) none).run P W = .ok (.slice (some ⟨b, f, none⟩) h n) W := by
  subst hx
  cases hq : P.info? e with
  | none => simp [hq] at hsz
  | some i =>
    have hi : i.size = 1 := by simpa [hq] using hsz
    have h1 : (0 : Int) ≤ (h : Int) ∧ (h : Int) ≤ (n : Int) := by omega
    have h2 : ¬ n = 0 := by omega
    simp [Instr.sliceAt, run_underlying hu, Instr.sureAddr, Instr.sliceBounds, Instr.sliceBound, asIntOf, h1, sizeOf, typeInfo, hq, add_mk]
    intro hh
    exact absurd hh (by omega)
/-- 'a[:]' of an array -/
theorem run_sla_all (b f : Nat) (hn : 0 < n) (W : World) :
    (Instr.sliceAt t (.pointer (some ⟨b, f, none⟩)) none none none).run P W = .ok (.slice (some ⟨b, f, none⟩) n n) W := by
  cases hq : P.info? e with
  | none => simp [hq] at hsz
  | some i =>
    have hi : i.size = 1 := by simpa [hq] using hsz
    have h2 : ¬ n = 0 := by omega
    simp [Instr.sliceAt, run_underlying hu, Instr.sureAddr, Instr.sliceBounds, sizeOf, typeInfo, hq, add_mk]
end
/-- 's[:h]' of a slice -/
theorem run_slh {P : Program} {t e : TypeId} {z : Value} {by_ : Nat} (ht : SlT P t e z by_) (b f n c h : Nat) (k : IntKind) (x : Int) (hx : x = h) (hc : h ≤ c) (hp : 0 < c) (W : World) :
    (Instr.slice t (.slice (some ⟨b, f, none⟩) n c) none (some (.int k x)) none).run P W = .ok (.slice (some ⟨b, f, none⟩) h c) W := by
  subst hx
  have hu : P.underlying t = some (.slice (P.elem t)) := by rw [elem_of ht]; exact ht.sl
  rw [run_slice_h (ht := hu) (h0 := by omega) (h2 := by omega), elem_of ht, size_of ht]
  show _ = _
  simp only [Result.andThen_ok, sliced]
  rw [if_neg (by omega)]
  simp [add_mk]
theorem fill_set {α : Type} (l : List α) (z : α) (n k : Nat) (hl : l.length = n) (hk : k < n) (v : α) (hv : l[k]? = some v) : (l.take k ++ List.replicate (n - k) z).set k v = l.take (k + 1) ++ List.replicate (n - (k + 1)) z := by
  have hlt : (l.take k).length = k := by rw [List.length_take]; omega
  rw [List.set_append_right _ _ (by omega), hlt, Nat.sub_self, show n - k = (n - (k + 1)) + 1 from by omega, List.replicate_succ, List.set_cons_zero]
  have hlk : k < l.length := by omega
  rw [List.take_succ_eq_append_getElem hlk]
  have : l[k] = v := by rw [List.getElem?_eq_getElem hlk] at hv; injection hv
  rw [this]
  simp
end Go.V
/- VB: more laws of memory. No project text. -/
namespace Go.V
open Go.RowKit
/-- 'copy(d, s)', s no longer than d, d at offset off of a block that is known whole -/
theorem wp_copyB {P : Program} {w : World} {ops : Array Oper} {rest : List Oper} {o : Oper} {a : Act} {Q : Exit → Act → World → Prop} (d s : Operand) {t e : TypeId} {z : Value} {by_ : Nat} (ht : SlT P t e z by_) (hgd : o.guard = none)
    (ho : o.op = .call { callee := .builtin .copy, args := #[d, s], argTypes := #[t, t] })
    {Ad : Option Addr} {g off D cd : Nat} (hd : a.eval d = .slice Ad D cd) {A : Option Addr} {L c : Nat} (hs : a.eval s = .slice A L c)
    {t' : TypeId} {cs : List Value} (hb : Blk w g t' cs) {news : List Value} (hsrc : Src w A L news) (h1 : ∀ u ∈ news, u.oneCell' = true) (hLD : L ≤ D) (hAd : 0 < L → Ad = some ⟨g, off, none⟩) (hfit : off + L ≤ cs.length)
    (h : ∀ w', Blk w' g t' (splice cs off news) → w.grownBy w' (some g) → wpList P ops Q rest (a.put o.dst (goInt L)) w') :
    wpList P ops Q (o :: rest) a w := by
  obtain ⟨i, hi, _, hsz, _⟩ := ht.inf
  have hz : (P.info? e).map (·.size) = some 1 := by rw [hi]; simp [hsz]
  by_cases h0 : L = 0
  · subst h0
    obtain rfl : news = [] := List.eq_nil_of_length_eq_zero hsrc.1
    refine wpList_copy_nothing hgd d s t t ho e ht.sl hz _ _ _ _ _ _ hd hs (by simp) ?_
    exact h w (by simpa [splice] using hb) (World.grownBy.refl w _)
  · obtain rfl := hAd (by omega)
    have hl := hsrc.1
    cases A with
    | none => exact absurd hsrc.none0.1 h0
    | some ad =>
      refine wpList_copy_own hgd d s t t ho e ht.sl hz g off _ _ ad _ _ hd hs cs.toArray t' hb news (by rw [hl]; simp [Nat.min_def]; omega) hsrc.at (by simpa [hl] using hfit) h1 ?_
      have := h (w.setRow g (cs.take off ++ (news ++ cs.drop (off + news.length))).toArray) (by unfold splice; exact hb.row _) (grown_setRow w g _)
      simpa [hl] using this
/-- a block of the call's own, known whole, as a row that may grow -/
theorem own_of_blk {w : World} {base g : Nat} {e : TypeId} {xs : List Value} (h : Blk w g e xs) (hb : base ≤ g) (n : Nat) (hn : xs.length = n) (hm : n ≤ maxLen) : w.ownsRow base e 1 (.slice (some ⟨g, 0, none⟩) n n) n xs := by
  subst hn
  refine ⟨by omega, .inr ⟨g, xs.length, xs.toArray, rfl, hb, h, Nat.le_refl _, hm, by simp, by simp⟩⟩
theorem Blk.chAt {G : Nat → Prop} {w w' : World} {g : Nat} {t : TypeId} {cs : List Value} (h : Blk w g t cs) (hg : ¬ G g) (hc : Ch G w w') : w'.rangeAt g 0 cs := (h.ch hc hg).whole
theorem Ch.belowG {G : Nat → Prop} {a b c : World} (h : Ch G a b) (hB : Below b.heap.size b c) : Ch G a c := h.belowR hB
/-- a whole array or struct, of a guarded operation that is wanted -/
theorem wp_ldg {P : Program} {w : World} {ops : Array Oper} {rest : List Oper} {o : Oper} {a : Act} {Q : Exit → Act → World → Prop} (ty : TypeId) (x : Operand) (hw : Region.wanted o (yielded ops a.tmps) = true) (ho : o.op = .load ty x) {b f : Nat} (hx : a.eval x = .pointer (some ⟨b, f, none⟩)) {l : List Value} (hr : w.rangeAt b f l)
    {d : TypeDesc} (hu : P.underlying ty = some d) (hd : d.isRow = true) (hi : (P.info? ty).map (·.size) = some l.length)
    (h : wpList P ops Q rest (a.put o.dst (.agg l.toArray)) w) : wpList P ops Q (o :: rest) a w := by
  refine wpList_step fun K hK => ?_
  rw [if_pos hw]
  exact wp_load_mid ty x ho b f hx l d hr hu hd hi (hK _ _ h)
/-- the address of an element that is s cells wide -/
theorem wp_ixa {P : Program} {w : World} {ops : Array Oper} {rest : List Oper} {o : Oper} {a : Act} {Q : Exit → Act → World → Prop} (t : TypeId) (x y : Operand) (hgd : o.guard = none) (ho : o.op = .indexAddr t x y) {g off n c : Nat} (hx : a.eval x = .slice (some ⟨g, off, none⟩) n c) {i : Nat} (hy : a.eval y = .int .i64 (i : Int))
    {e : TypeId} (hu : P.underlying t = some (.slice e)) (hi : i < n) {s : Nat} (hsz : (P.info? e).map (·.size) = some s)
    (h : wpList P ops Q rest (a.put o.dst (.pointer (some ⟨g, off + i * s, none⟩))) w) : wpList P ops Q (o :: rest) a w := by
  refine wpList_plain hgd fun K hK => ?_
  cases hq : P.info? e with
  | none => simp [hq] at hsz
  | some f =>
    have hs : f.size = s := by simpa [hq] using hsz
    have h1 : (0 : Int) ≤ (i : Int) ∧ (i : Int) < (n : Int) := by omega
    have hr : (Instr.indexAt t (.slice (some ⟨g, off, none⟩) n c) (.int .i64 (i : Int))).run P w = .ok (.pointer (some ⟨g, off + i * s, none⟩)) w := by
      simp [Instr.indexAt, asIntOf, run_underlying hu, sizeOf, typeInfo, hq, hs, h1, add_mk]
      intro hh
      exact absurd hh (by omega)
    unfold Oper.wp execOp
    simp only [ho, hx, hy, Sem.run_bind, Sem.run_pure, hr, Result.andThen_ok]
    exact hK _ _ h
/-- the same, in a region that draws its order -/
theorem yi_ixa {P : Program} {ops : Array Oper} {S : World → Prop} {o : Oper} {a : Act} (hw : Region.wanted o (yielded ops a.tmps) = true) (t : TypeId) (x y : Operand) (ho : o.op = .indexAddr t x y) {g off n c : Nat} (hx : a.eval x = .slice (some ⟨g, off, none⟩) n c) {i : Nat} (hy : a.eval y = .int .i64 (i : Int))
    {e : TypeId} (hu : P.underlying t = some (.slice e)) (hi : i < n) {s : Nat} (hsz : (P.info? e).map (·.size) = some s) : YieldsIf P ops S o (.pointer (some ⟨g, off + i * s, none⟩)) a := by
  refine .inl ⟨hw, fun w _ => ?_⟩
  cases hq : P.info? e with
  | none => simp [hq] at hsz
  | some f =>
    have hs : f.size = s := by simpa [hq] using hsz
    have h1 : (0 : Int) ≤ (i : Int) ∧ (i : Int) < (n : Int) := by omega
    have hr : (Instr.indexAt t (.slice (some ⟨g, off, none⟩) n c) (.int .i64 (i : Int))).run P w = .ok (.pointer (some ⟨g, off + i * s, none⟩)) w := by
      simp [Instr.indexAt, asIntOf, run_underlying hu, sizeOf, typeInfo, hq, hs, h1, add_mk]
      intro hh
      exact absurd hh (by omega)
    unfold execOp
    simp only [ho, hx, hy, Sem.run_bind, Sem.run_pure, hr, Result.andThen_ok]
end Go.V
/- VC: laws of append: several elements at once; in a region that draws its order; two rows apart. No project text. -/
namespace Go.V
open Go.RowKit
/-- a stop for the walk, at the operation that writes slot d -/
def StopV (P : Program) (ops : Array Oper) (Q : Exit → Act → World → Prop) (l : List Oper) (a : Act) (w : World) : Prop := wpList P ops Q l a w
theorem wp_at (d : Nat) {P : Program} {ops : Array Oper} {Q : Exit → Act → World → Prop} {o : Oper} {l : List Oper} {a : Act} {w : World} (_ho : o.dst = some d) (h : StopV P ops Q (o :: l) a w) : wpList P ops Q (o :: l) a w := h
theorem wp_on {P : Program} {ops : Array Oper} {Q : Exit → Act → World → Prop} {l : List Oper} {a : Act} {w : World} (h : wpList P ops Q l a w) : StopV P ops Q l a w := h
theorem u8w (n : Nat) : IntKind.u8.wrap (n : Int) = ((n % 256 : Nat) : Int) := by
  have : IntKind.u8.wrap (n : Int) = (n : Int) % 256 := IntKind.wrap_u8' _
  rw [this]; omega
/-- the end of a function of two results, the first of which lies in a cell -/
theorem ret_cell1 {P : Program} {fn : Func} {R : Ending → World → Prop} {a : Act} {w : World} {p q : Tmp} {ty : TypeId} (hf : fn.results = #[.cell p ty, .tmp q]) {b f : Nat} (hp : a.tmps.getD p undef = .pointer (some ⟨b, f, none⟩)) {u : Value} (hq : a.tmps.getD q undef = u) {l : List Value} (hr : w.rangeAt b f l)
    {d : TypeDesc} (hu : P.underlying ty = some d) (hd : d.isRow = true) (hi : (P.info? ty).map (·.size) = some l.length) (hdf : a.defers = []) (h : R (.returned (.tuple #[.agg l.toArray, u])) w) : bodyPost P fn R .ret a w := by
  refine bodyPost_ret (v := .tuple #[.agg l.toArray, u]) ?_ hdf h
  have hp' : a.tmps[p]?.getD undef = .pointer (some ⟨b, f, none⟩) := by simpa using hp
  have hq' : a.tmps[q]?.getD undef = u := by simpa using hq
  simp [results, hf, hp', hq', asAddr, run_loadVar_mid w b f ty l d hr hu hd hi]
/-- a new variable, in a region that draws its order: the world behind it under a new name -/
theorem step_new {P : Program} {w : World} {ops : Array Oper} {o : Oper} {a : Act} {Q : Exit → Act → World → Prop} {K : Act → World → Prop} {E : Prop} (t : TypeId) (hgd : o.guard = none) (ho : o.op = .alloc t) {z : List Value} (hz : (P.info? t).map (·.zero) = some (some (.agg z.toArray)))
    (h : ∀ g w', w.heap.size ≤ g → g < w'.heap.size → Blk w' g t z → Below w.heap.size w w' → K (a.put o.dst (.pointer (some ⟨g, 0, none⟩))) w') : if Region.wanted o (yielded ops a.tmps) = true then Oper.wp P o a w K Q else E := by
  have hw : Region.wanted o (yielded ops a.tmps) = true := by simp [Region.wanted, hgd]
  rw [if_pos hw]
  cases hq : P.info? t with
  | none => simp [hq] at hz
  | some i =>
    have hz' : i.zero = some (.agg z.toArray) := by simpa [hq] using hz
    have hr : (Instr.alloc t true (.tuple #[])).run P w = .ok (.pointer (some ⟨w.heap.size, 0, none⟩)) (w.alloc (.cells z.toArray t)) := by
      simp [Instr.alloc, zeroValue, typeInfo, hq, hz', newVar, newRow, Value.cells]
    unfold Oper.wp execOp
    simp only [ho, Sem.run_bind, Sem.run_pure, hr, Result.andThen_ok]
    exact h w.heap.size _ (Nat.le_refl _) (by simp) (Blk.new' w t z) ((Below.refl _ _).alloc (Nat.le_refl _) _)
/-- '[]T{}' -/
theorem wp_bs0 {P : Program} {w : World} {ops : Array Oper} {rest : List Oper} {o : Oper} {a : Act} {Q : Exit → Act → World → Prop} (t e : TypeId) (hgd : o.guard = none) (ho : o.op = .buildSlice t 0 #[]) (hr : ∀ W : World, (Instr.buildSlice t 0 #[]).run P W = .ok (.slice (some ⟨W.heap.size, 0, none⟩) 0 0) (W.alloc (.cells #[] e)))
    (h : ∀ v w', w'.ownsRow w.heap.size e 1 v 0 [] → Below w.heap.size w w' → wpList P ops Q rest (a.put o.dst v) w') : wpList P ops Q (o :: rest) a w := by
  refine wpList_plain hgd fun K hK => ?_
  unfold Oper.wp execOp
  have e0 : (Array.map (fun (x : Nat × Operand) => (x.1, a.eval x.2)) #[]) = #[] := by simp
  simp only [ho, e0, Sem.run_bind, Sem.run_pure, hr, Result.andThen_ok]
  exact hK _ _ (h _ _ (World.ownsRow_made w #[] 0 (Nat.le_refl _) (by simp [maxLen]) rfl) ((Below.refl _ _).alloc (Nat.le_refl _) _))
end Go.V
/- VG: words: rows of ints, make of an empty slice. No project text. -/
namespace Go.V
open Go.RowKit
/-- a stop for the walk -/
def StopW (P : Program) (ops : Array Oper) (Q : Exit → Act → World → Prop) (l : List Oper) (a : Act) (w : World) : Prop := wpList P ops Q l a w
theorem wp_stop {P : Program} {ops : Array Oper} {Q : Exit → Act → World → Prop} {l : List Oper} {a : Act} {w : World} (h : StopW P ops Q l a w) : wpList P ops Q l a w := h
theorem wp_go {P : Program} {ops : Array Oper} {Q : Exit → Act → World → Prop} {l : List Oper} {a : Act} {w : World} (h : wpList P ops Q l a w) : StopW P ops Q l a w := h
def ivs (l : List Nat) : List Value := l.map fun (n : Nat) => .int .i64 (n : Int)
theorem len_ivs (l : List Nat) : (ivs l).length = l.length := by simp [ivs]
theorem oneCell_ivs (l : List Nat) : ∀ u ∈ ivs l, u.oneCell' = true := by
  intro u hu
  simp [ivs] at hu
  obtain ⟨c, _, rfl⟩ := hu
  rfl
theorem ivs_at (l : List Nat) (j n : Nat) (h : l[j]? = some n) : (ivs l)[j]? = some (.int .i64 (n : Int)) := by simp [ivs, h]
/-- a row's cells, in its own words -/
theorem own_cellAt {w : World} {base : Nat} {e : TypeId} {v : Value} {n : Nat} {xs : List Value} (h : w.ownsRow base e 1 v n xs) (j : Nat) (u : Value) (hu : xs[j]? = some u) : ∃ g c, v = .slice (some ⟨g, 0, none⟩) n c ∧ base ≤ g ∧ g < w.heap.size ∧ w.cell? ⟨g, j, none⟩ = some u := by
  rcases h.2 with ⟨rfl, rfl⟩ | ⟨g, cap, cur, rfl, hg, hh, h1, h2, h3, h4⟩
  · have := h.1
    rw [List.eq_nil_of_length_eq_zero (by omega : xs.length = 0)] at hu
    simp at hu
  · refine ⟨g, cap, rfl, hg, lt_of_block hh, ?_⟩
    have := h.cells (g := g) rfl j u hu
    rwa [add_mk, Nat.zero_add] at this
theorem own_weak {w : World} {base base' : Nat} {e : TypeId} {s : Nat} {v : Value} {n : Nat} {xs : List Value} (h : w.ownsRow base e s v n xs) (hb : base' ≤ base) : w.ownsRow base' e s v n xs := by
  refine ⟨h.1, ?_⟩
  rcases h.2 with h0 | ⟨g, cap, cur, hv, hg, hr⟩
  · exact .inl h0
  · exact .inr ⟨g, cap, cur, hv, by omega, hr⟩
theorem own_bel {w w' : World} {base : Nat} {e : TypeId} {s : Nat} {v : Value} {n : Nat} {xs : List Value} (h : w.ownsRow base e s v n xs) (hB : Below w.heap.size w w') : w'.ownsRow base e s v n xs := by
  refine ⟨h.1, ?_⟩
  rcases h.2 with h0 | ⟨g, cap, cur, hv, hg, hh, hr⟩
  · exact .inl h0
  · exact .inr ⟨g, cap, cur, hv, hg, (hB.block g (lt_of_block hh)).trans hh, hr⟩
theorem ivs_snoc (l : List Nat) (n : Nat) : ivs (l ++ [n]) = ivs l ++ [.int .i64 (n : Int)] := by simp [ivs]
section
variable {P : Program} {w : World} {ops : Array Oper} {rest : List Oper} {o : Oper} {a : Act} {Q : Exit → Act → World → Prop}
/-- 'make([]T, 0, c)' -/
theorem wp_mk0 {t e : TypeId} {z : Value} {by_ : Nat} (ht : SlT P t e z by_) (_hz : z.cells = #[z]) (x y : Operand) (hgd : o.guard = none) (ho : o.op = .makeSlice t x y) (c : Nat)
    (hx : a.eval x = .int .i64 0) (hy : a.eval y = .int .i64 (c : Int)) (hb : by_ * c ≤ 281474976710656) (hm : c ≤ maxLen)
    (h : ∀ w', w'.ownsRow w.heap.size e 1 (.slice (some ⟨w.heap.size, 0, none⟩) 0 c) 0 [] → Below w.heap.size w w' → wpList P ops Q rest (a.put o.dst (.slice (some ⟨w.heap.size, 0, none⟩) 0 c)) w') : wpList P ops Q (o :: rest) a w := by
  refine wpList_plain hgd fun K hK => ?_
  obtain ⟨i, hi, hzz, hsz, hby⟩ := ht.inf
  have h63 : (c : Int) ≤ 9223372036854775807 := by simp [maxLen] at hm; omega
  have hb' : (i.bytes : Int) * (c : Int) ≤ 281474976710656 := by
    have : ((i.bytes * c : Nat) : Int) ≤ 281474976710656 := by rw [hby]; omega
    rwa [Int.natCast_mul] at this
  have hr := run_make (P := P) (w := w) t e i z ht.sl hi hzz .i64 .i64 0 c (by omega) (by omega) hb' h63
  unfold Oper.wp execOp
  simp only [ho, hx, hy, Sem.run_bind, Sem.run_pure, hr, Result.andThen_ok]
  refine hK _ _ ?_
  have e0 : (0 : Int).toNat = 0 := rfl
  simp only [Int.toNat_natCast, e0]
  exact h _ (World.ownsRow_made w _ c (Nat.le_refl _) hm (by simp [madeCells, hsz])) ((Below.refl _ _).alloc (Nat.le_refl _) _)
end
end Go.V
/- VT: lists of texts in memory. No project text. -/
namespace Go.V
open Go.RowKit
theorem RdC.elem {w : World} {F : Nat → Prop} {g : Nat} : ∀ {ds : List Dat} {off : Nat}, RdC w F g off ds → ∀ (i : Nat) (d : Dat), ds[i]? = some d → ∃ u, w.cell? ⟨g, off + i, none⟩ = some u ∧ Rd w F u d
  | [], off, _, i, d, hd => by simp at hd
  | d0 :: ds, off, h, i, d, hd => by
    unfold RdC at h
    obtain ⟨⟨u, hu, hr⟩, hc⟩ := h
    cases i with
    | zero => simp at hd; subst hd; exact ⟨u, hu, hr⟩
    | succ i =>
      obtain ⟨x, hx, hxr⟩ := RdC.elem hc i d (by simpa using hd)
      exact ⟨x, by rw [show off + (i + 1) = off + 1 + i from by omega]; exact hx, hxr⟩
/-- an element of a slice -/
theorem Rd.elem {w : World} {F : Nat → Prop} {A : Option Addr} {n c : Nat} {ds : List Dat} (h : Rd w F (.slice A n c) (.sl n ds)) (i : Nat) (d : Dat) (hd : ds[i]? = some d) :
    ∃ g off u, A = some ⟨g, off, none⟩ ∧ F g ∧ w.cell? ⟨g, off + i, none⟩ = some u ∧ Rd w F u d := by
  unfold Rd at h
  obtain ⟨A', c', hv, _, _, _, h4⟩ := h
  injection hv with e1 e2 e3
  subst e1
  obtain ⟨g, off, hA, hg, hc⟩ := h4 (by intro e; rw [e] at hd; simp at hd)
  obtain ⟨u, hu, hr⟩ := hc.elem i d hd
  exact ⟨g, off, u, hA, hg, hu, hr⟩
theorem Rd.slShape {w : World} {F : Nat → Prop} {v : Value} {n : Nat} {ds : List Dat} (h : Rd w F v (.sl n ds)) : ∃ A c, v = .slice A n c ∧ n ≤ c ∧ c ≤ maxLen := by
  unfold Rd at h
  obtain ⟨A, c, hv, h1, h2, _⟩ := h
  exact ⟨A, c, hv, h1, h2⟩
/-- a list of texts -/
def tx (ts : List (List UInt8)) : Dat := .sl ts.length (ts.map bys)
/-- a new block of values that read -/
theorem RdC.mk {w : World} {F : Nat → Prop} {g : Nat} {t : TypeId} : ∀ {us : List Value} {ds : List Dat} {cs : List Value} {off : Nat}, Blk w g t cs → us.length = ds.length → (∀ i u, us[i]? = some u → cs[off + i]? = some u) → (∀ (i : Nat) (u : Value) (d : Dat), us[i]? = some u → ds[i]? = some d → Rd w F u d) → RdC w F g off ds
  | _, [], _, _, _, _, _, _ => by unfold RdC; trivial
  | [], d :: ds, _, _, _, hl, _, _ => by simp at hl
  | u :: us, d :: ds, cs, off, hb, hl, hc, h => by
    unfold RdC
    refine ⟨⟨u, hb.cellAt off u (by simpa using hc 0 u rfl), h 0 u d rfl rfl⟩, RdC.mk (us := us) hb (by simpa using hl) (fun i x hx => ?_) (fun i x y hx hy => h (i + 1) x y (by simpa using hx) (by simpa using hy))⟩
    rw [show off + 1 + i = off + (i + 1) from by omega]
    exact hc (i + 1) x (by simpa using hx)
theorem RdC.ofAt {w : World} {F : Nat → Prop} {g : Nat} : ∀ {ds : List Dat} {off : Nat}, (∀ (i : Nat) (d : Dat), ds[i]? = some d → ∃ u, w.cell? ⟨g, off + i, none⟩ = some u ∧ Rd w F u d) → RdC w F g off ds
  | [], _, _ => by unfold RdC; trivial
  | d :: ds, off, h => by
    unfold RdC
    refine ⟨by simpa using h 0 d rfl, RdC.ofAt fun i x hx => ?_⟩
    rw [show off + 1 + i = off + (i + 1) from by omega]
    exact h (i + 1) x (by simpa using hx)
/-- what a row of texts holds, in blocks of F -/
structure TxX (w : World) (F : Nat → Prop) (l : List (List UInt8)) (us : List Value) : Prop where
  len : us.length = l.length
  at_ : ∀ (i : Nat) (u : Value) (t : List UInt8), us[i]? = some u → l[i]? = some t → Rd w F u (bys t)
theorem TxX.nil (w : World) (F : Nat → Prop) : TxX w F [] [] := ⟨rfl, fun i u t h _ => by simp at h⟩
theorem TxX.keep {w w' : World} {F F' : Nat → Prop} {l : List (List UInt8)} {us : List Value} (hF : ∀ b, b < w.heap.size → F b → F' b ∧ w'.heap[b]? = w.heap[b]?) (h : TxX w F l us) : TxX w' F' l us :=
  ⟨h.len, fun i u t hu ht => (h.at_ i u t hu ht).keep hF⟩
theorem TxX.snoc {w : World} {F : Nat → Prop} {l : List (List UInt8)} {us : List Value} {u : Value} {t : List UInt8} (h : TxX w F l us) (hu : Rd w F u (bys t)) : TxX w F (l ++ [t]) (us ++ [u]) := by
  refine ⟨by simp [h.len], fun i v x hv hx => ?_⟩
  rcases Nat.lt_or_ge i us.length with hi | hi
  · rw [List.getElem?_append_left hi] at hv
    rw [List.getElem?_append_left (by rw [← h.len]; exact hi)] at hx
    exact h.at_ i v x hv hx
  · rw [List.getElem?_append_right hi] at hv
    rw [List.getElem?_append_right (by rw [← h.len]; exact hi), ← h.len] at hx
    have h0 : i - us.length = 0 := by
      have := (List.getElem?_eq_some_iff.1 hv).1
      simpa using this
    rw [h0] at hv hx
    simp at hv hx
    subst hv hx
    exact hu
/-- an own row of texts, read -/
theorem tx_own {w : World} {base : Nat} {e : TypeId} {F : Nat → Prop} {v : Value} {l : List (List UInt8)} {us : List Value} (ho : w.ownsRow base e 1 v l.length us) (hx : TxX w F l us) (hF : ∀ b, F b → base ≤ b) : Rd w (fun b => base ≤ b) v (tx l) := by
  unfold tx Rd
  have hx := hx.keep (F' := fun b => base ≤ b) (fun b _ h => ⟨hF b h, rfl⟩)
  rcases ho.2 with ⟨rfl, h0⟩ | ⟨g, cap, cur, rfl, hg, hh, h1, h2, h3, h4⟩
  · have : l = [] := List.eq_nil_of_length_eq_zero h0
    subst this
    exact ⟨none, 0, rfl, Nat.le_refl _, by simp [maxLen], fun _ => rfl, fun h => absurd rfl h⟩
  · refine ⟨_, cap, rfl, h1, h2, fun h => by rw [List.eq_nil_of_length_eq_zero h]; rfl, fun _ => ⟨g, 0, rfl, hg, RdC.ofAt (fun i d hd => ?_)⟩⟩
    rw [List.getElem?_map] at hd
    cases ht : l[i]? with
    | none => rw [ht] at hd; cases hd
    | some t =>
      rw [ht] at hd
      injection hd with hd
      subst hd
      have hil : i < us.length := by rw [hx.len]; exact (List.getElem?_eq_some_iff.1 ht).1
      have hu : us[i]? = some (us[i]'hil) := List.getElem?_eq_getElem hil
      refine ⟨_, ?_, hx.at_ i _ t hu ht⟩
      have := ho.cells (g := g) rfl i _ hu
      rw [add_mk] at this
      exact this
end Go.V
/- VN: alloc and store of a struct at once. No project text. -/
namespace Go.V
open Go.RowKit
section
variable {P : Program} {w : World} {ops : Array Oper} {rest : List Oper} {o1 o2 : Oper} {a : Act} {Q : Exit → Act → World → Prop}
/-- a new variable of a struct's type, and its value stored at once -/
theorem wp_newst (t : TypeId) (d : Nat) (y : Operand) (hg1 : o1.guard = none) (hg2 : o2.guard = none) (ho1 : o1.op = .alloc t) (hd1 : o1.dst = some d) (ho2 : o2.op = .store t (.tmp d) y) (hd2 : o2.dst = none)
    {z l : List Value} (hz : (P.info? t).map (·.zero) = some (some (.agg z.toArray))) (hy : (a.put (some d) (.pointer (some ⟨w.heap.size, 0, none⟩))).eval y = .agg l.toArray) (hzl : z.length = l.length) (hi : (P.info? t).map (·.size) = some l.length) (h1 : ∀ v ∈ l, v.oneCell' = true) (hsz : d < a.tmps.size)
    (h : ∀ w', Blk w' w.heap.size t l → Below w.heap.size w w' → w.heap.size < w'.heap.size → wpList P ops Q rest (a.put (some d) (.pointer (some ⟨w.heap.size, 0, none⟩))) w') : wpList P ops Q (o1 :: o2 :: rest) a w := by
  refine wp_new t hg1 ho1 hz ?_
  rw [hd1]
  have hb := Blk.new' w t z
  refine wp_st t (.tmp d) y hg2 ho2 hd2 (b := w.heap.size) (f := 0) (by simp [Act.eval, Act.put, hsz]) (l := l) hy hb (by omega) hi h1 ?_
  intro w' hb' hG
  rw [List.take_zero, List.nil_append, List.drop_of_length_le (by omega), List.append_nil] at hb'
  exact h w' hb' (((Below.refl _ _).alloc (Nat.le_refl _) _).grown hG (by simp) (by intro k hk; injection hk with hk; omega)) hb'.lt
end
end Go.V
/- VD: rows of wide elements (arrays, structs): append of one element, reading one. No project text. -/
namespace Go.V
open Go.RowKit
/-- the tables' facts on a slice type t of wide elements e -/
structure SlW (P : Program) (t e : TypeId) (z : List Value) (s by_ : Nat) : Prop where
  sl : P.underlying t = some (.slice e)
  inf : ∃ i, P.info? e = some i ∧ i.zero = some (.agg z.toArray) ∧ i.size = s ∧ i.bytes = by_
  len : z.length = s
  pos : 0 < s
  small : s ≤ 65536
theorem SlW.of {P : Program} {t e : TypeId} {z : List Value} {s by_ : Nat} (h : P.underlying t = some (.slice e)) (h2 : (P.info? e).map (fun i => (i.zero, i.size, i.bytes)) = some (some (.agg z.toArray), s, by_)) (hl : z.length = s) (h3 : 0 < s) (h4 : s ≤ 65536) : SlW P t e z s by_ :=
  ⟨h, info_parts h2, hl, h3, h4⟩
theorem fold_put : ∀ (l : List Value) (k : Nat) (cs : Array Value), k + l.length ≤ cs.size → ((l.zipIdx k).foldl (fun (cs : Array Value) (x : Value × Nat) => cs.setIfInBounds (0 + x.2) x.1) cs).toList = cs.toList.take k ++ l ++ cs.toList.drop (k + l.length)
  | [], k, cs, _ => by simp
  | v :: l, k, cs, h => by
    rw [List.zipIdx_cons, List.foldl_cons, fold_put l (k + 1) _ (by simp at h ⊢; omega)]
    simp only [Nat.zero_add, Array.toList_setIfInBounds, List.length_cons]
    have hk : k < cs.toList.length := by simp at h ⊢; omega
    rw [List.set_eq_take_append_cons_drop, if_pos hk]
    have hl : (cs.toList.take k).length = k := by rw [List.length_take]; omega
    rw [List.take_append, List.take_of_length_le (by omega), hl, show k + 1 - k = 1 from by omega, List.take_succ_cons, List.take_zero, List.drop_append, List.drop_of_length_le (by omega), hl, show k + 1 + l.length - k = l.length + 1 from by omega, List.drop_succ_cons, List.drop_drop]
    simp only [List.append_assoc, List.cons_append, List.nil_append]
    congr 4
    omega
theorem run_bsW {P : Program} {t e : TypeId} {z : List Value} {sz by_ : Nat} (ht : SlW P t e z sz by_) (us : List Value) (hu : us.length = sz) (W : World) :
    (Instr.buildSlice t 1 #[(0, .agg us.toArray)]).run P W = .ok (.slice (some ⟨W.heap.size, 0, none⟩) 1 1) (W.alloc (.cells us.toArray e)) := by
  obtain ⟨i, hi, hz, hs, hb⟩ := ht.inf
  have hp := ht.pos
  have hsm := ht.small
  have hl := ht.len
  subst hl
  refine run_buildSlice W t e 1 _ us.toArray i (.agg z.toArray) ht.sl hi hz (by rw [hs]; omega) (by rw [hs]; omega) ?_
  have hc : (Value.agg us.toArray).cells = us.toArray := rfl
  simp only [Instr.fill, hc, hs, List.size_toArray, hu, Nat.zero_mul, Nat.one_mul, Array.size_map, Array.size_range]
  rw [if_neg (by simp)]
  simp only [Option.some.injEq]
  apply Array.ext'
  have := fold_put us 0 (Array.map (fun x => (Value.agg z.toArray).cells[x % (Value.agg z.toArray).cells.size]!) (Array.range z.length)) (by simp [hu])
  rw [List.take_zero, List.nil_append, List.drop_of_length_le (by simp [hu]), List.append_nil] at this
  simpa [← Array.foldl_toList] using this
theorem run_append_wide {P : Program} {w : World} (base : Nat) {t ty e : TypeId} {z : List Value} {sz by_ : Nat} (ht : SlW P t e z sz by_) (v : Value) (n : Nat) (xs us : List Value) (hown : w.ownsRow base e sz v n xs) (hu : us.length = sz) (h1 : ∀ u ∈ us, u.oneCell' = true) (h63 : n + 1 ≤ maxLen) (hb : (n + 1) * by_ ≤ 140737488355328) (hbase : base ≤ w.heap.size) :
    ∃ v' w', (Builtin.append_ #[t, t] ty #[v, .slice (some ⟨w.heap.size, 0, none⟩) 1 1]).run P (w.alloc (.cells us.toArray e)) = .ok v' w' ∧ w'.ownsRow base e sz v' (n + 1) (xs ++ us) ∧ w.grownBy w' v.ownBlock ∧ (v'.ownBlock = v.ownBlock ∨ ∃ g, v'.ownBlock = some g ∧ w.heap.size ≤ g) := by
  obtain ⟨i, hi, hz, hs, hby⟩ := ht.inf
  obtain ⟨v', w', r1, r2, r3, _, r5⟩ := run_append_own_at (P := P) (w.alloc (.cells us.toArray e)) base t ty e i (.agg z.toArray) sz by_ ht.sl hi hz hs hby (by simp [Value.cells, ht.len]) ht.pos v n xs (hown.alloc _) ⟨w.heap.size, 0, none⟩ 1 1 us (by omega)
    (fun j u hj => by rw [add_mk, Nat.zero_add]; exact (Blk.new' w e us).cellAt j u hj) h1 h63 hb (by simp; omega)
  refine ⟨v', w', r1, r2, ⟨r3.os, r3.tape, r3.output, by have := r3.size; simp at this; omega, fun k hk hne => (r3.block k (by simp; omega) hne).trans (Below.heap_alloc w _ k hk)⟩, ?_⟩
  rcases r5 with h | h
  · exact .inl h
  · exact .inr ⟨_, h, by simp⟩
/-- 'append(v, x)', x an array or a struct -/
theorem wp_pushW {P : Program} {w : World} {ops : Array Oper} {rest : List Oper} {o1 o2 : Oper} {a : Act} {Q : Exit → Act → World → Prop} (s x : Operand) (d1 : Nat) {t e : TypeId} {z : List Value} {sz by_ : Nat} (ht : SlW P t e z sz by_) (hg1 : o1.guard = none) (hg2 : o2.guard = none)
    (ho1 : o1.op = .buildSlice t 1 #[(0, x)]) (hd1 : o1.dst = some d1) (ho2 : o2.op = .call { callee := .builtin .append, args := #[s, .tmp d1], argTypes := #[t, t] })
    {us : List Value} (hx : a.eval x = .agg us.toArray) (hu : us.length = sz) (h1 : ∀ u ∈ us, u.oneCell' = true) (hsz : d1 < a.tmps.size)
    {base : Nat} {v : Value} {n : Nat} {xs : List Value} (hs : (a.put (some d1) (.slice (some ⟨w.heap.size, 0, none⟩) 1 1)).eval s = v) (hown : w.ownsRow base e sz v n xs)
    (h63 : n + 1 ≤ maxLen) (hb : (n + 1) * by_ ≤ 140737488355328) (hbase : base ≤ w.heap.size)
    (h : ∀ v' w', w'.ownsRow base e sz v' (n + 1) (xs ++ us) → w.grownBy w' v.ownBlock → (v'.ownBlock = v.ownBlock ∨ ∃ g, v'.ownBlock = some g ∧ w.heap.size ≤ g) →
      wpList P ops Q rest ((a.put (some d1) (.slice (some ⟨w.heap.size, 0, none⟩) 1 1)).put o2.dst v') w') :
    wpList P ops Q (o1 :: o2 :: rest) a w := by
  refine wpList_plain hg1 fun K hK => ?_
  unfold Oper.wp execOp
  have e1 : (Array.map (fun (x : Nat × Operand) => (x.1, a.eval x.2)) #[(0, x)]) = #[(0, .agg us.toArray)] := by simp [hx]
  simp only [ho1, e1, Sem.run_bind, Sem.run_pure, run_bsW ht us hu, Result.andThen_ok]
  refine hK _ _ ?_
  rw [hd1]
  obtain ⟨v', w', r1, r2, r3, r4⟩ := run_append_wide (P := P) (w := w) base (ty := o2.type) ht v n xs us hown hu h1 h63 hb hbase
  refine wpList_plain hg2 fun K hK => ?_
  have e2 : (a.put (some d1) (.slice (some ⟨w.heap.size, 0, none⟩) 1 1)).eval (.tmp d1) = .slice (some ⟨w.heap.size, 0, none⟩) 1 1 := by simp [Act.eval, Act.put, hsz]
  unfold Oper.wp execOp
  simp only [ho2, resolve, invoke, builtin, Sem.run_bind, Sem.run_pure, Result.andThen_ok, List.map_toArray, List.map_cons, List.map_nil, hs, e2, r1]
  exact hK _ _ (h v' w' r2 r3 r4)
theorem blk_row {w : World} {g b s n : Nat} {t e : TypeId} {v : Value} {cs xs : List Value} (hb : Blk w g t cs) (h : w.ownsRow b e s v n xs) (hne : t ≠ e) : some g ≠ v.ownBlock := by
  rcases h.2 with ⟨rfl, _⟩ | ⟨k, cap, cur, rfl, _, hh, _⟩
  · intro e; cases e
  · intro he
    simp [Value.ownBlock] at he
    subst he
    unfold Blk at hb
    rw [hb] at hh
    injection hh with hh
    injection hh with _ h2
    exact hne h2
end Go.V
namespace Go.V
open Go.RowKit
section
variable {P : Program} {w : World} {ops : Array Oper} {rest : List Oper} {o : Oper} {a : Act} {Q : Exit → Act → World → Prop}
/-- '[]T{x}' -/
theorem wp_bsl {t e : TypeId} {z : Value} {by_ : Nat} (ht : SlT P t e z by_) (x : Operand) (hgd : o.guard = none) (ho : o.op = .buildSlice t 1 #[(0, x)]) {u : Value} (hx : a.eval x = u) (huc : u.cells = #[u])
    (h : ∀ w', Blk w' w.heap.size e [u] → Below w.heap.size w w' → wpList P ops Q rest (a.put o.dst (.slice (some ⟨w.heap.size, 0, none⟩) 1 1)) w') : wpList P ops Q (o :: rest) a w := by
  refine wpList_plain hgd fun K hK => ?_
  have e1 : (Array.map (fun (x : Nat × Operand) => (x.1, a.eval x.2)) #[(0, x)]) = #[(0, u)] := by simp [hx]
  unfold Oper.wp execOp
  simp only [ho, e1, Sem.run_bind, Sem.run_pure, run_buildSlice1 (P := P) (w := w) t e z u by_ ht huc, Result.andThen_ok]
  exact hK _ _ (h _ (Blk.new' w e [u]) ((Below.refl _ _).alloc (Nat.le_refl _) _))
end
theorem rd_one {w : World} {g : Nat} {t : TypeId} {c : UInt8} (h : Blk w g t [byteV c]) {F : Nat → Prop} (hF : F g) : Rd w F (.slice (some ⟨g, 0, none⟩) 1 1) (bys [c]) := h.rd (bs := [c]) hF rfl 1 (Nat.le_refl _) (by simp [maxLen])
theorem y_bld {P : Program} {ops : Array Oper} {S : World → Prop} {o : Oper} {a : Act} (hw : Region.wanted o (yielded ops a.tmps) = true) (t : TypeId) (parts : List (Nat × Operand)) (ho : o.op = .build t parts.toArray) (vs : List (Nat × Value)) (hp : (parts.map fun x => (x.1, a.eval x.2)) = vs) {cells : Array Value} (hr : ∀ W : World, (Instr.build t vs.toArray).run P W = .ok (.agg cells) W) : YieldsIf P ops S o (.agg cells) a := by
  refine .inl ⟨hw, fun w _ => ?_⟩
  have e : (parts.toArray.map fun (i, x) => (i, a.eval x)) = vs.toArray := by rw [List.map_toArray, ← hp]
  unfold execOp
  simp only [ho, e, Sem.run_bind, Sem.run_pure, hr, Result.andThen_ok]
theorem bel_drewN {b : Nat} {w w' : World} (h : Below b w w') (n : Nat) : Below b w (w'.drewN n) := ⟨h.os, h.tape, h.output, h.size, h.block⟩
end Go.V
