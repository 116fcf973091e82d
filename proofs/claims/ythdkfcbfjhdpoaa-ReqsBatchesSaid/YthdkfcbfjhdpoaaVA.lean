/- VA: arrays in blocks that are known whole: words and laws. No project text. -/
import Derived.Test.YthdkfcbfjhdpoaaV
import Derived.Laws.BitsAllLaws
import Derived.Deep.MidRow
import Derived.Deep.WholeRow
namespace Go.V
open Go.RowKit

/-- block g holds the cells cs -/
def Blk (w : World) (g : Nat) (t : TypeId) (cs : List Value) : Prop := w.heap[g]? = some (.cells cs.toArray t (0, 0))
section
variable {w w' : World} {g : Nat} {t : TypeId} {cs : List Value}
theorem Blk.lt (h : Blk w g t cs) : g < w.heap.size := lt_of_block h
theorem Blk.keep (h : Blk w g t cs) (hc : w'.heap[g]? = w.heap[g]?) : Blk w' g t cs := hc.trans h
theorem Blk.ch {G : Nat → Prop} (h : Blk w g t cs) (hc : Ch G w w') (hg : ¬ G g) : Blk w' g t cs := h.keep (hc.block g h.lt hg)
theorem Blk.below (h : Blk w g t cs) (hB : Below w.heap.size w w') : Blk w' g t cs := h.keep (hB.block g h.lt)
theorem Blk.drew (h : Blk w g t cs) : Blk w.drew g t cs := h
theorem Blk.drewN (h : Blk w g t cs) (n : Nat) : Blk (w.drewN n) g t cs := h
theorem Blk.alloc (h : Blk w g t cs) (o : Obj) : Blk (w.alloc o) g t cs := heap_alloc_same w o g _ h
theorem Blk.new (w : World) (t : TypeId) (arr : Array Value) : Blk (w.alloc (.cells arr t)) w.heap.size t arr.toList := by
  unfold Blk; simpa using heap_alloc_new w (.cells arr t)
theorem Blk.new' (w : World) (t : TypeId) (l : List Value) : Blk (w.alloc (.cells l.toArray t)) w.heap.size t l := heap_alloc_new w _
theorem Blk.cell (h : Blk w g t cs) (j : Nat) : w.cell? ⟨g, j, none⟩ = cs[j]? := by
  unfold Blk at h
  simp [World.cell?, h]
theorem Blk.cellAt (h : Blk w g t cs) (j : Nat) (v : Value) (hv : cs[j]? = some v) : w.cell? ⟨g, j, none⟩ = some v := (h.cell j).trans hv
theorem Blk.frz (h : Blk w g t cs) (j : Nat) : w.frozen? ⟨g, j, none⟩ = false := by
  unfold Blk at h
  simp [World.frozen?, h]
theorem Blk.range (h : Blk w g t cs) (o : Nat) (l : List Value) (hl : ∀ j v, l[j]? = some v → cs[o + j]? = some v) : w.rangeAt g o l := fun j v hv => h.cellAt _ v (hl j v hv)
theorem Blk.whole (h : Blk w g t cs) : w.rangeAt g 0 cs := h.range 0 cs (fun j v hv => by rw [Nat.zero_add]; exact hv)
theorem Blk.there (h : Blk w g t cs) (o n : Nat) (hn : o + n ≤ cs.length) : w.there g o n := fun j hj => ⟨by rw [h.cell, List.getElem?_eq_getElem (by omega)]; rfl, h.frz _⟩
theorem Blk.row (h : Blk w g t cs) (cs' : List Value) : Blk (w.setRow g cs'.toArray) g t cs' := setRow_heap w g _ _ t _ h
theorem Blk.rd (h : Blk w g t cs) {F : Nat → Prop} (hF : F g) {bs : List UInt8} (hc : cs = bvs bs) (c : Nat) (hc1 : bs.length ≤ c) (hc2 : c ≤ maxLen) : Rd w F (.slice (some ⟨g, 0, none⟩) bs.length c) (bys bs) := by
  unfold bys Rd
  refine ⟨_, c, rfl, hc1, hc2, fun h0 => by rw [List.eq_nil_of_length_eq_zero h0]; rfl, fun _ => ⟨_, _, rfl, hF, RdC.of_bytes fun j u hu => ?_⟩⟩
  rw [Nat.zero_add]
  exact h.cellAt j u (by rw [hc]; exact hu)
end
section
variable {P : Program} {w : World} {ops : Array Oper} {rest : List Oper} {o : Oper} {a : Act} {Q : Exit → Act → World → Prop}
/-- a whole array or struct out of the midst of a block -/
theorem wp_ld (ty : TypeId) (x : Operand) (hgd : o.guard = none) (ho : o.op = .load ty x) {b f : Nat} (hx : a.eval x = .pointer (some ⟨b, f, none⟩)) {l : List Value} (hr : w.rangeAt b f l)
    {d : TypeDesc} (hu : P.underlying ty = some d) (hd : d.isRow = true) (hi : (P.info? ty).map (·.size) = some l.length)
    (h : wpList P ops Q rest (a.put o.dst (.agg l.toArray)) w) : wpList P ops Q (o :: rest) a w :=
  wpList_load_mid hgd ty x ho b f hx l d hr hu hd hi h
/-- a whole array or struct into the midst of a block -/
theorem wp_st (ty : TypeId) (x y : Operand) (hgd : o.guard = none) (ho : o.op = .store ty x y) (hdst : o.dst = none) {b f : Nat} (hx : a.eval x = .pointer (some ⟨b, f, none⟩)) {l : List Value} (hy : a.eval y = .agg l.toArray)
    {t : TypeId} {cs : List Value} (hb : Blk w b t cs) (hfit : f + l.length ≤ cs.length) (hi : (P.info? ty).map (·.size) = some l.length) (h1 : ∀ v ∈ l, v.oneCell' = true)
    (h : ∀ w', Blk w' b t (cs.take f ++ l ++ cs.drop (f + l.length)) → w.grownBy w' (some b) → wpList P ops Q rest a w') : wpList P ops Q (o :: rest) a w := by
  refine wpList_plain hgd fun K hK => ?_
  have hs : (storeVar ty ⟨b, f, none⟩ (.agg l.toArray)).run P w = .ok () (w.setRow b (cs.take f ++ l ++ cs.drop (f + l.length)).toArray) := by
    have := run_storeCells_at P b f t l 0 cs.toArray w hb (by simpa using hfit) h1
    cases hq : P.info? ty with
    | none => simp [hq] at hi
    | some i =>
      have hs : l.length = i.size := by simp [hq] at hi; omega
      simp only [Nat.add_zero] at this
      simp [storeVar, sizeOf, typeInfo, hq, Value.cells, hs]
      simpa [hs] using this
  unfold Oper.wp execOp
  simp only [ho, hx, hy, Instr.storeAt, Instr.sureAddr, Sem.run_bind, Sem.run_pure, Result.andThen_ok, hs]
  have := h _ (hb.row _) (grown_setRow w b _)
  refine hK _ _ ?_
  rw [hdst]
  exact this
/-- the load, in a region that draws its order -/
theorem step_ld {K : Act → World → Prop} {E : Prop} (ty : TypeId) (x : Operand) (hgd : o.guard = none) (ho : o.op = .load ty x) {b f : Nat} (hx : a.eval x = .pointer (some ⟨b, f, none⟩)) {l : List Value} (hr : w.rangeAt b f l)
    {d : TypeDesc} (hu : P.underlying ty = some d) (hd : d.isRow = true) (hi : (P.info? ty).map (·.size) = some l.length)
    (h : K (a.put o.dst (.agg l.toArray)) w) : if Region.wanted o (yielded ops a.tmps) = true then Oper.wp P o a w K Q else E := by
  have hw : Region.wanted o (yielded ops a.tmps) = true := by simp [Region.wanted, hgd]
  rw [if_pos hw]
  exact wp_load_mid ty x ho b f hx l d hr hu hd hi h
/-- the same, in a region that draws its order -/
theorem step_st {K : Act → World → Prop} {E : Prop} (ty : TypeId) (x y : Operand) (hgd : o.guard = none) (ho : o.op = .store ty x y) (hdst : o.dst = none) {b f : Nat} (hx : a.eval x = .pointer (some ⟨b, f, none⟩)) {l : List Value} (hy : a.eval y = .agg l.toArray)
    {t : TypeId} {cs : List Value} (hb : Blk w b t cs) (hfit : f + l.length ≤ cs.length) (hi : (P.info? ty).map (·.size) = some l.length) (h1 : ∀ v ∈ l, v.oneCell' = true)
    (h : ∀ w', Blk w' b t (cs.take f ++ l ++ cs.drop (f + l.length)) → w.grownBy w' (some b) → K a w') : if Region.wanted o (yielded ops a.tmps) = true then Oper.wp P o a w K Q else E := by
  have hw : Region.wanted o (yielded ops a.tmps) = true := by simp [Region.wanted, hgd]
  rw [if_pos hw]
  have hs : (storeVar ty ⟨b, f, none⟩ (.agg l.toArray)).run P w = .ok () (w.setRow b (cs.take f ++ l ++ cs.drop (f + l.length)).toArray) := by
    have := run_storeCells_at P b f t l 0 cs.toArray w hb (by simpa using hfit) h1
    cases hq : P.info? ty with
    | none => simp [hq] at hi
    | some i =>
      have hs : l.length = i.size := by simp [hq] at hi; omega
      simp only [Nat.add_zero] at this
      simp [storeVar, sizeOf, typeInfo, hq, Value.cells, hs]
      simpa [hs] using this
  unfold Oper.wp execOp
  simp only [ho, hx, hy, Instr.storeAt, Instr.sureAddr, Sem.run_bind, Sem.run_pure, Result.andThen_ok, hs]
  have := h _ (hb.row _) (grown_setRow w b _)
  show K _ _
  rw [hdst]
  exact this
/-- one cell into a block -/
theorem wp_st1 (ty : TypeId) (x y : Operand) (hgd : o.guard = none) (ho : o.op = .store ty x y) (hdst : o.dst = none) {b f : Nat} (hx : a.eval x = .pointer (some ⟨b, f, none⟩)) {v : Value} (hy : a.eval y = v)
    {t : TypeId} {cs : List Value} (hb : Blk w b t cs) (hfit : f < cs.length) (hi : (P.info? ty).map (·.size) = some 1) (hv : v.oneCell' = true) (hvc : v.cells = #[v])
    (h : ∀ w', Blk w' b t (cs.set f v) → w.grownBy w' (some b) → wpList P ops Q rest a w') : wpList P ops Q (o :: rest) a w := by
  refine wpList_plain hgd fun K hK => ?_
  have hs : (storeVar ty ⟨b, f, none⟩ v).run P w = .ok () (w.setRow b (cs.set f v).toArray) := by
    have := run_storeCells_at P b f t [v] 0 cs.toArray w hb (by simp; omega) (by intro u hu; simp at hu; subst hu; exact hv)
    cases hq : P.info? ty with
    | none => simp [hq] at hi
    | some i =>
      have hs : i.size = 1 := by simpa [hq] using hi
      simp only [Nat.add_zero] at this
      have e : cs.take f ++ [v] ++ cs.drop (f + 1) = cs.set f v := by rw [List.set_eq_take_append_cons_drop, if_pos hfit]; simp
      simp [storeVar, sizeOf, typeInfo, hq, hvc, hs]
      simpa [← e] using this
  unfold Oper.wp execOp
  simp only [ho, hx, hy, Instr.storeAt, Instr.sureAddr, Sem.run_bind, Sem.run_pure, Result.andThen_ok, hs]
  refine hK _ _ ?_
  rw [hdst]
  exact h _ (hb.row _) (grown_setRow w b _)
/-- a new variable of an array's or a struct's type -/
theorem wp_new (t : TypeId) (hgd : o.guard = none) (ho : o.op = .alloc t) {z : List Value} (hz : (P.info? t).map (·.zero) = some (some (.agg z.toArray)))
    (h : wpList P ops Q rest (a.put o.dst (.pointer (some ⟨w.heap.size, 0, none⟩))) (w.alloc (.cells z.toArray t))) : wpList P ops Q (o :: rest) a w := by
  refine wpList_plain hgd fun K hK => ?_
  cases hq : P.info? t with
  | none => simp [hq] at hz
  | some i =>
    have hz' : i.zero = some (.agg z.toArray) := by simpa [hq] using hz
    have hr : (Instr.alloc t true (.tuple #[])).run P w = .ok (.pointer (some ⟨w.heap.size, 0, none⟩)) (w.alloc (.cells z.toArray t)) := by
      simp [Instr.alloc, zeroValue, typeInfo, hq, hz', newVar, newRow, Value.cells]
    unfold Oper.wp execOp
    simp only [ho, Sem.run_bind, Sem.run_pure, hr, Result.andThen_ok]
    exact hK _ _ h
/-- a composite value, what it comes to said by an equation -/
theorem wp_bld (t : TypeId) (parts : List (Nat × Operand)) (hgd : o.guard = none) (ho : o.op = .build t parts.toArray) (vs : List (Nat × Value)) (hp : (parts.map fun x => (x.1, a.eval x.2)) = vs) {cells : Array Value} (hr : ∀ W : World, (Instr.build t vs.toArray).run P W = .ok (.agg cells) W)
    (h : wpList P ops Q rest (a.put o.dst (.agg cells)) w) : wpList P ops Q (o :: rest) a w := by
  refine wpList_plain hgd fun K hK => ?_
  have e : (parts.toArray.map fun (i, x) => (i, a.eval x)) = vs.toArray := by rw [List.map_toArray, ← hp]
  unfold Oper.wp execOp
  simp only [ho, e, Sem.run_bind, Sem.run_pure, hr, Result.andThen_ok]
  exact hK _ _ h
/-- an element of an array value -/
theorem wp_idx (t : TypeId) (x y : Operand) (hgd : o.guard = none) (ho : o.op = .index t x y) {l : List Value} (hx : a.eval x = .agg l.toArray) {k : Nat} (hy : a.eval y = .int .i64 (k : Int))
    {n : Nat} {e : TypeId} (hu : P.underlying t = some (.array n e)) (hn : k < n) (hag : ∀ W : World, (isAgg e).run P W = .ok false W) (hsz : (P.info? e).map (·.size) = some 1) {v : Value} (hv : l[k]? = some v)
    (h : wpList P ops Q rest (a.put o.dst v) w) : wpList P ops Q (o :: rest) a w := by
  refine wpList_plain hgd fun K hK => ?_
  cases hq : P.info? e with
  | none => simp [hq] at hsz
  | some i =>
    have hi : i.size = 1 := by simpa [hq] using hsz
    have hr : (Instr.index t (.agg l.toArray) (.int .i64 (k : Int))).run P w = .ok v w := by
      simp [Instr.index, asIntOf, run_underlying hu, sizeOf, typeInfo, hq, hi, hn, part, hag, hv]
    unfold Oper.wp execOp
    simp only [ho, hx, hy, Sem.run_bind, Sem.run_pure, hr, Result.andThen_ok]
    exact hK _ _ h
end
/-- the end of a function whose result lies in a cell -/
theorem ret_cell {P : Program} {fn : Func} {R : Ending → World → Prop} {a : Act} {w : World} {p : Tmp} {ty : TypeId} (hf : fn.results = #[.cell p ty]) {b f : Nat} (hp : a.tmps.getD p undef = .pointer (some ⟨b, f, none⟩)) {l : List Value} (hr : w.rangeAt b f l)
    {d : TypeDesc} (hu : P.underlying ty = some d) (hd : d.isRow = true) (hi : (P.info? ty).map (·.size) = some l.length) (hdf : a.defers = []) (h : R (.returned (.agg l.toArray)) w) : bodyPost P fn R .ret a w := by
  refine bodyPost_ret (v := .agg l.toArray) ?_ hdf h
  have hp' : a.tmps[p]?.getD undef = .pointer (some ⟨b, f, none⟩) := by simpa using hp
  simp [results, hf, hp', asAddr, run_loadVar_mid w b f ty l d hr hu hd hi]
section
variable {P : Program} {t e : TypeId} {n : Nat} (hu : P.underlying t = some (.array n e)) (hsz : (P.info? e).map (·.size) = some 1)
include hu hsz
/-- 'a[l:]' of an array -/
theorem run_sla_l (b f l : Nat) (k : IntKind) (x : Int) (hx : x = l) (hl : l < n) (W : World) :
    (Instr.sliceAt t (.pointer (some ⟨b, f, none⟩)) (some (.int k x)) none none).run P W = .ok (.slice (some ⟨b, f + l, none⟩) (n - l) (n - l)) W := by
  subst hx
  cases hq : P.info? e with
  | none => simp [hq] at hsz
  | some i =>
    have hi : i.size = 1 := by simpa [hq] using hsz
    have h1 : (0 : Int) ≤ (l : Int) ∧ (l : Int) ≤ (n : Int) := by omega
    have h2 : ¬ n = l := by omega
    simp [Instr.sliceAt, run_underlying hu, Instr.sureAddr, Instr.sliceBounds, Instr.sliceBound, asIntOf, h1, sizeOf, typeInfo, hq, hi, h2, add_mk]
    intro hh
    exact absurd hh (by omega)
/-- 'a[:h]' of an array -/
theorem run_sla_h (b f h : Nat) (k : IntKind) (x : Int) (hx : x = h) (hl : h ≤ n) (hn : 0 < n) (W : World) :
    (Instr.sliceAt t (.pointer (some ⟨b, f, none⟩)) none (some (.int k x)) none).run P W = .ok (.slice (some ⟨b, f, none⟩) h n) W := by
  subst hx
  cases hq : P.info? e with
  | none => simp [hq] at hsz
  | some i =>
    have hi : i.size = 1 := by simpa [hq] using hsz
    have h1 : (0 : Int) ≤ (h : Int) ∧ (h : Int) ≤ (n : Int) := by omega
    have h2 : ¬ n = 0 := by omega
    simp [Instr.sliceAt, run_underlying hu, Instr.sureAddr, Instr.sliceBounds, Instr.sliceBound, asIntOf, h1, sizeOf, typeInfo, hq, add_mk]
    intro hh
    exact absurd hh (by omega)
/-- 'a[:]' of an array -/
theorem run_sla_all (b f : Nat) (hn : 0 < n) (W : World) :
    (Instr.sliceAt t (.pointer (some ⟨b, f, none⟩)) none none none).run P W = .ok (.slice (some ⟨b, f, none⟩) n n) W := by
  cases hq : P.info? e with
  | none => simp [hq] at hsz
  | some i =>
    have hi : i.size = 1 := by simpa [hq] using hsz
    have h2 : ¬ n = 0 := by omega
    simp [Instr.sliceAt, run_underlying hu, Instr.sureAddr, Instr.sliceBounds, sizeOf, typeInfo, hq, add_mk]
end
/-- 's[:h]' of a slice -/
theorem run_slh {P : Program} {t e : TypeId} {z : Value} {by_ : Nat} (ht : SlT P t e z by_) (b f n c h : Nat) (k : IntKind) (x : Int) (hx : x = h) (hc : h ≤ c) (hp : 0 < c) (W : World) :
    (Instr.slice t (.slice (some ⟨b, f, none⟩) n c) none (some (.int k x)) none).run P W = .ok (.slice (some ⟨b, f, none⟩) h c) W := by
  subst hx
  have hu : P.underlying t = some (.slice (P.elem t)) := by rw [elem_of ht]; exact ht.sl
  rw [run_slice_h (ht := hu) (h0 := by omega) (h2 := by omega), elem_of ht, size_of ht]
  show _ = _
  simp only [Result.andThen_ok, sliced]
  rw [if_neg (by omega)]
  simp [add_mk]
theorem fill_set {α : Type} (l : List α) (z : α) (n k : Nat) (hl : l.length = n) (hk : k < n) (v : α) (hv : l[k]? = some v) : (l.take k ++ List.replicate (n - k) z).set k v = l.take (k + 1) ++ List.replicate (n - (k + 1)) z := by
  have hlt : (l.take k).length = k := by rw [List.length_take]; omega
  rw [List.set_append_right _ _ (by omega), hlt, Nat.sub_self, show n - k = (n - (k + 1)) + 1 from by omega, List.replicate_succ, List.set_cons_zero]
  have hlk : k < l.length := by omega
  rw [List.take_succ_eq_append_getElem hlk]
  have : l[k] = v := by rw [List.getElem?_eq_getElem hlk] at hv; injection hv
  rw [this]
  simp
end Go.V
