/- VD: rows of wide elements (arrays, structs): append of one element, reading one. No project text. -/
import Derived.Test.YthdkfcbfjhdpoaaVC
import Derived.Great.BuildSlice
import Derived.Still
namespace Go.V
open Go.RowKit
/-- the tables' facts on a slice type t of wide elements e -/
structure SlW (P : Program) (t e : TypeId) (z : List Value) (s by_ : Nat) : Prop where
  sl : P.underlying t = some (.slice e)
  inf : ∃ i, P.info? e = some i ∧ i.zero = some (.agg z.toArray) ∧ i.size = s ∧ i.bytes = by_
  len : z.length = s
  pos : 0 < s
  small : s ≤ 65536
theorem SlW.of {P : Program} {t e : TypeId} {z : List Value} {s by_ : Nat} (h : P.underlying t = some (.slice e)) (h2 : (P.info? e).map (fun i => (i.zero, i.size, i.bytes)) = some (some (.agg z.toArray), s, by_)) (hl : z.length = s) (h3 : 0 < s) (h4 : s ≤ 65536) : SlW P t e z s by_ :=
  ⟨h, info_parts h2, hl, h3, h4⟩
theorem fold_put : ∀ (l : List Value) (k : Nat) (cs : Array Value), k + l.length ≤ cs.size → ((l.zipIdx k).foldl (fun (cs : Array Value) (x : Value × Nat) => cs.setIfInBounds (0 + x.2) x.1) cs).toList = cs.toList.take k ++ l ++ cs.toList.drop (k + l.length)
  | [], k, cs, _ => by simp
  | v :: l, k, cs, h => by
    rw [List.zipIdx_cons, List.foldl_cons, fold_put l (k + 1) _ (by simp at h ⊢; omega)]
    simp only [Nat.zero_add, Array.toList_setIfInBounds, List.length_cons]
    have hk : k < cs.toList.length := by simp at h ⊢; omega
    rw [List.set_eq_take_append_cons_drop, if_pos hk]
    have hl : (cs.toList.take k).length = k := by rw [List.length_take]; omega
    rw [List.take_append, List.take_of_length_le (by omega), hl, show k + 1 - k = 1 from by omega, List.take_succ_cons, List.take_zero, List.drop_append, List.drop_of_length_le (by omega), hl, show k + 1 + l.length - k = l.length + 1 from by omega, List.drop_succ_cons, List.drop_drop]
    simp only [List.append_assoc, List.cons_append, List.nil_append]
    congr 4
    omega
theorem run_bsW {P : Program} {t e : TypeId} {z : List Value} {sz by_ : Nat} (ht : SlW P t e z sz by_) (us : List Value) (hu : us.length = sz) (W : World) :
    (Instr.buildSlice t 1 #[(0, .agg us.toArray)]).run P W = .ok (.slice (some ⟨W.heap.size, 0, none⟩) 1 1) (W.alloc (.cells us.toArray e)) := by
  obtain ⟨i, hi, hz, hs, hb⟩ := ht.inf
  have hp := ht.pos
  have hsm := ht.small
  have hl := ht.len
  subst hl
  refine run_buildSlice W t e 1 _ us.toArray i (.agg z.toArray) ht.sl hi hz (by rw [hs]; omega) (by rw [hs]; omega) ?_
  have hc : (Value.agg us.toArray).cells = us.toArray := rfl
  simp only [Instr.fill, hc, hs, List.size_toArray, hu, Nat.zero_mul, Nat.one_mul, Array.size_map, Array.size_range]
  rw [if_neg (by simp)]
  simp only [Option.some.injEq]
  apply Array.ext'
  have := fold_put us 0 (Array.map (fun x => (Value.agg z.toArray).cells[x % (Value.agg z.toArray).cells.size]!) (Array.range z.length)) (by simp [hu])
  rw [List.take_zero, List.nil_append, List.drop_of_length_le (by simp [hu]), List.append_nil] at this
  simpa [← Array.foldl_toList] using this
theorem info_size {P : Program} {t e : TypeId} {z : List Value} {sz by_ : Nat} (ht : SlW P t e z sz by_) : (P.info? e).map (·.size) = some sz := by
  obtain ⟨i, hi, _, hs, _⟩ := ht.inf
  rw [hi]
  simp [hs]
theorem run_append_wide {P : Program} {w : World} (base : Nat) {t ty e : TypeId} {z : List Value} {sz by_ : Nat} (ht : SlW P t e z sz by_) (v : Value) (n : Nat) (xs us : List Value) (hown : w.ownsRow base e sz v n xs) (hu : us.length = sz) (h1 : ∀ u ∈ us, u.oneCell' = true) (h63 : n + 1 ≤ maxLen) (hb : (n + 1) * by_ ≤ 140737488355328) (hbase : base ≤ w.heap.size) :
    ∃ v' w', (Builtin.append_ #[t, t] ty #[v, .slice (some ⟨w.heap.size, 0, none⟩) 1 1]).run P (w.alloc (.cells us.toArray e)) = .ok v' w' ∧ w'.ownsRow base e sz v' (n + 1) (xs ++ us) ∧ w.grownBy w' v.ownBlock ∧ (v'.ownBlock = v.ownBlock ∨ ∃ g, v'.ownBlock = some g ∧ w.heap.size ≤ g) := by
  obtain ⟨i, hi, hz, hs, hby⟩ := ht.inf
  obtain ⟨v', w', r1, r2, r3, _, r5⟩ := run_append_own_at (P := P) (w.alloc (.cells us.toArray e)) base t ty e i (.agg z.toArray) sz by_ ht.sl hi hz hs hby (by simp [Value.cells, ht.len]) ht.pos v n xs (hown.alloc _) ⟨w.heap.size, 0, none⟩ 1 1 us (by omega)
    (fun j u hj => by rw [add_mk, Nat.zero_add]; exact (Blk.new' w e us).cellAt j u hj) h1 h63 hb (by simp; omega)
  refine ⟨v', w', r1, r2, ⟨r3.os, r3.tape, r3.output, by have := r3.size; simp at this; omega, fun k hk hne => (r3.block k (by simp; omega) hne).trans (Below.heap_alloc w _ k hk)⟩, ?_⟩
  rcases r5 with h | h
  · exact .inl h
  · exact .inr ⟨_, h, by simp⟩
/-- 'append(v, x)', x an array or a struct -/
theorem wp_pushW {P : Program} {w : World} {ops : Array Oper} {rest : List Oper} {o1 o2 : Oper} {a : Act} {Q : Exit → Act → World → Prop} (s x : Operand) (d1 : Nat) {t e : TypeId} {z : List Value} {sz by_ : Nat} (ht : SlW P t e z sz by_) (hg1 : o1.guard = none) (hg2 : o2.guard = none)
    (ho1 : o1.op = .buildSlice t 1 #[(0, x)]) (hd1 : o1.dst = some d1) (ho2 : o2.op = .call { callee := .builtin .append, args := #[s, .tmp d1], argTypes := #[t, t] })
    {us : List Value} (hx : a.eval x = .agg us.toArray) (hu : us.length = sz) (h1 : ∀ u ∈ us, u.oneCell' = true) (hsz : d1 < a.tmps.size)
    {base : Nat} {v : Value} {n : Nat} {xs : List Value} (hs : (a.put (some d1) (.slice (some ⟨w.heap.size, 0, none⟩) 1 1)).eval s = v) (hown : w.ownsRow base e sz v n xs)
    (h63 : n + 1 ≤ maxLen) (hb : (n + 1) * by_ ≤ 140737488355328) (hbase : base ≤ w.heap.size)
    (h : ∀ v' w', w'.ownsRow base e sz v' (n + 1) (xs ++ us) → w.grownBy w' v.ownBlock → (v'.ownBlock = v.ownBlock ∨ ∃ g, v'.ownBlock = some g ∧ w.heap.size ≤ g) →
      wpList P ops Q rest ((a.put (some d1) (.slice (some ⟨w.heap.size, 0, none⟩) 1 1)).put o2.dst v') w') :
    wpList P ops Q (o1 :: o2 :: rest) a w := by
  refine wpList_plain hg1 fun K hK => ?_
  unfold Oper.wp execOp
  have e1 : (Array.map (fun (x : Nat × Operand) => (x.1, a.eval x.2)) #[(0, x)]) = #[(0, .agg us.toArray)] := by simp [hx]
  simp only [ho1, e1, Sem.run_bind, Sem.run_pure, run_bsW ht us hu, Result.andThen_ok]
  refine hK _ _ ?_
  rw [hd1]
  obtain ⟨v', w', r1, r2, r3, r4⟩ := run_append_wide (P := P) (w := w) base (ty := o2.type) ht v n xs us hown hu h1 h63 hb hbase
  refine wpList_plain hg2 fun K hK => ?_
  have e2 : (a.put (some d1) (.slice (some ⟨w.heap.size, 0, none⟩) 1 1)).eval (.tmp d1) = .slice (some ⟨w.heap.size, 0, none⟩) 1 1 := by simp [Act.eval, Act.put, hsz]
  unfold Oper.wp execOp
  simp only [ho2, resolve, invoke, builtin, Sem.run_bind, Sem.run_pure, Result.andThen_ok, List.map_toArray, List.map_cons, List.map_nil, hs, e2, r1]
  exact hK _ _ (h v' w' r2 r3 r4)
/-- a row of wide elements: one of them, as cells in their place -/
theorem ownW_range {w : World} {base s : Nat} {e : TypeId} {v : Value} {n : Nat} {xs : List Value} (h : w.ownsRow base e s v n xs) (hn : 0 < n) : ∃ g c, v = .slice (some ⟨g, 0, none⟩) n c ∧ base ≤ g ∧ g < w.heap.size ∧ w.rangeAt g 0 xs := by
  rcases h.2 with ⟨rfl, rfl⟩ | ⟨g, cap, cur, rfl, hg, hh, _⟩
  · omega
  · refine ⟨g, cap, rfl, hg, lt_of_block hh, fun j u hu => ?_⟩
    have := h.cells (g := g) rfl j u hu
    rw [add_mk] at this
    exact this
theorem range_part {w : World} {g : Nat} {xs l : List Value} {o : Nat} (h : w.rangeAt g 0 xs) (hl : ∀ j v, l[j]? = some v → xs[o + j]? = some v) : w.rangeAt g o l := fun j v hv => by
  have := h (o + j) v (hl j v hv)
  rwa [Nat.zero_add] at this
/-- the same two operations in a region that draws its order -/
theorem step_bsW {P : Program} {w : World} {ops : Array Oper} {o : Oper} {a : Act} {Q : Exit → Act → World → Prop} {K : Act → World → Prop} {E : Prop} (x : Operand) {t e : TypeId} {z : List Value} {sz by_ : Nat} (ht : SlW P t e z sz by_) (hgd : o.guard = none) (ho : o.op = .buildSlice t 1 #[(0, x)])
    {us : List Value} (hx : a.eval x = .agg us.toArray) (hu : us.length = sz)
    (h : K (a.put o.dst (.slice (some ⟨w.heap.size, 0, none⟩) 1 1)) (w.alloc (.cells us.toArray e))) : if Region.wanted o (yielded ops a.tmps) = true then Oper.wp P o a w K Q else E := by
  have hw : Region.wanted o (yielded ops a.tmps) = true := by simp [Region.wanted, hgd]
  rw [if_pos hw]
  unfold Oper.wp execOp
  have e1 : (Array.map (fun (x : Nat × Operand) => (x.1, a.eval x.2)) #[(0, x)]) = #[(0, .agg us.toArray)] := by simp [hx]
  simp only [ho, e1, Sem.run_bind, Sem.run_pure, run_bsW ht us hu, Result.andThen_ok]
  exact h
theorem step_appW {P : Program} {w : World} {ops : Array Oper} {o : Oper} {a : Act} {Q : Exit → Act → World → Prop} {K : Act → World → Prop} {E : Prop} (s x : Operand) {t e : TypeId} {z : List Value} {sz by_ : Nat} (ht : SlW P t e z sz by_) (hgd : o.guard = none)
    (ho : o.op = .call { callee := .builtin .append, args := #[s, x], argTypes := #[t, t] }) {us : List Value} (hu : us.length = sz) (h1 : ∀ u ∈ us, u.oneCell' = true)
    {base : Nat} {v : Value} {n : Nat} {xs : List Value} (hs : a.eval s = v) (hown : w.ownsRow base e sz v n xs) (hx : a.eval x = .slice (some ⟨w.heap.size, 0, none⟩) 1 1)
    (h63 : n + 1 ≤ maxLen) (hb : (n + 1) * by_ ≤ 140737488355328) (hbase : base ≤ w.heap.size)
    (h : ∀ v' w', w'.ownsRow base e sz v' (n + 1) (xs ++ us) → w.grownBy w' v.ownBlock → K (a.put o.dst v') w') : if Region.wanted o (yielded ops a.tmps) = true then Oper.wp P o a (w.alloc (.cells us.toArray e)) K Q else E := by
  have hw : Region.wanted o (yielded ops a.tmps) = true := by simp [Region.wanted, hgd]
  rw [if_pos hw]
  obtain ⟨v', w', r1, r2, r3, _⟩ := run_append_wide (P := P) (w := w) base (ty := o.type) ht v n xs us hown hu h1 h63 hb hbase
  unfold Oper.wp execOp
  simp only [ho, resolve, invoke, builtin, Sem.run_bind, Sem.run_pure, Result.andThen_ok, List.map_toArray, List.map_cons, List.map_nil, hs, hx, r1]
  exact h v' w' r2 r3
/-- lists of digests, one behind the other -/
theorem flat32_at : ∀ (l : List (List UInt8)) (_ : ∀ x ∈ l, x.length = 32) (i : Nat) (x : List UInt8) (_ : l[i]? = some x) (j : Nat) (u : UInt8), x[j]? = some u → l.flatten[i * 32 + j]? = some u
  | [], _, i, x, hx, _, _, _ => by simp at hx
  | y :: l, h, 0, x, hx, j, u, hu => by
    simp at hx
    subst hx
    have hj := (List.getElem?_eq_some_iff.1 hu).1
    rw [List.flatten_cons, Nat.zero_mul, Nat.zero_add, List.getElem?_append_left hj]
    exact hu
  | y :: l, h, i + 1, x, hx, j, u, hu => by
    have hy := h y (by simp)
    rw [List.flatten_cons, List.getElem?_append_right (by rw [hy]; omega), hy, show (i + 1) * 32 + j - 32 = i * 32 + j from by omega]
    exact flat32_at l (fun z hz => h z (by simp [hz])) i x (by simpa using hx) j u hu
theorem flat32_len : ∀ (l : List (List UInt8)) (_ : ∀ x ∈ l, x.length = 32), l.flatten.length = 32 * l.length
  | [], _ => rfl
  | x :: l, h => by
    rw [List.flatten_cons, List.length_append, h x (by simp), flat32_len l (fun y hy => h y (by simp [hy])), List.length_cons]
    omega
/-- the cells of the i-th digest of a row -/
theorem row32 {w : World} {g : Nat} {T : List (List UInt8)} (h : w.rangeAt g 0 (bvs T.flatten)) (hT : ∀ x ∈ T, x.length = 32) (i : Nat) (x : List UInt8) (hx : T[i]? = some x) : w.rangeAt g (0 + i * 32) (bvs x) := by
  rw [Nat.zero_add]
  refine range_part h (fun j v hv => ?_)
  unfold bvs at hv ⊢
  rw [List.getElem?_map] at hv ⊢
  cases hj : x[j]? with
  | none => rw [hj] at hv; cases hv
  | some u =>
    rw [flat32_at T hT i x hx j u hj]
    rw [hj] at hv
    exact hv
/-- in a region whose first operations only read: the load of a long array; the address of a wide element -/
theorem still_ld {P : Program} {ops : Array Oper} {w : World} {Q : Act → Prop} {o : Oper} {rest : List Oper} {a : Act} (ty : TypeId) (x : Operand) (hgd : o.guard = none) (ho : o.op = .load ty x) {b f : Nat} (hx : a.eval x = .pointer (some ⟨b, f, none⟩)) {l : List Value} (hr : w.rangeAt b f l)
    {d : TypeDesc} (hu : P.underlying ty = some d) (hd : d.isRow = true) (hi : (P.info? ty).map (·.size) = some l.length) (h : wpStill P ops w Q rest (a.put o.dst (.agg l.toArray))) : wpStill P ops w Q (o :: rest) a := by
  refine wpStill_step (fun K hK => ?_)
  have hw : Region.wanted o (yielded ops a.tmps) = true := by simp [Region.wanted, hgd]
  rw [if_pos hw]
  unfold Oper.still execOp
  simp only [ho, hx, Instr.loadAt, Instr.sureAddr, Sem.run_bind, Sem.run_pure, Result.andThen_ok, run_loadVar_mid w b f ty l d hr hu hd hi]
  exact ⟨rfl, hK _ h⟩
theorem still_ixa {P : Program} {ops : Array Oper} {w : World} {Q : Act → Prop} {o : Oper} {rest : List Oper} {a : Act} (t : TypeId) (x y : Operand) (hgd : o.guard = none) (ho : o.op = .indexAddr t x y) {g off n c : Nat} (hx : a.eval x = .slice (some ⟨g, off, none⟩) n c) {i : Nat} (hy : a.eval y = .int .i64 (i : Int))
    {e : TypeId} (hu : P.underlying t = some (.slice e)) (hi : i < n) {s : Nat} (hsz : (P.info? e).map (·.size) = some s) (h : wpStill P ops w Q rest (a.put o.dst (.pointer (some ⟨g, off + i * s, none⟩)))) : wpStill P ops w Q (o :: rest) a := by
  refine wpStill_step (fun K hK => ?_)
  have hw : Region.wanted o (yielded ops a.tmps) = true := by simp [Region.wanted, hgd]
  rw [if_pos hw]
  cases hq : P.info? e with
  | none => simp [hq] at hsz
  | some f =>
    have hs : f.size = s := by simpa [hq] using hsz
    have h1 : (0 : Int) ≤ (i : Int) ∧ (i : Int) < (n : Int) := by omega
    have hr : (Instr.indexAt t (.slice (some ⟨g, off, none⟩) n c) (.int .i64 (i : Int))).run P w = .ok (.pointer (some ⟨g, off + i * s, none⟩)) w := by
      simp [Instr.indexAt, asIntOf, run_underlying hu, sizeOf, typeInfo, hq, hs, h1, add_mk]
      intro hh
      exact absurd hh (by omega)
    unfold Oper.still execOp
    simp only [ho, hx, hy, Sem.run_bind, Sem.run_pure, hr, Result.andThen_ok]
    exact ⟨rfl, hK _ h⟩
theorem still_mv {P : Program} {ops : Array Oper} {w : World} {Q : Act → Prop} {o : Oper} {rest : List Oper} {a : Act} (x : Operand) (hgd : o.guard = none) (ho : o.op = .move x) {v : Value} (hx : a.eval x = v) (h : wpStill P ops w Q rest (a.put o.dst v)) : wpStill P ops w Q (o :: rest) a := by
  refine wpStill_step (fun K hK => ?_)
  have hw : Region.wanted o (yielded ops a.tmps) = true := by simp [Region.wanted, hgd]
  rw [if_pos hw]
  unfold Oper.still execOp
  simp only [ho, hx, Sem.run_pure]
  exact ⟨rfl, hK _ h⟩
theorem y_ixa {P : Program} {ops : Array Oper} {o : Oper} {a : Act} (hw : Region.wanted o (yielded ops a.tmps) = true) (t : TypeId) (x y : Operand) (ho : o.op = .indexAddr t x y) {g off n c : Nat} (hx : a.eval x = .slice (some ⟨g, off, none⟩) n c) {i : Nat} (hy : a.eval y = .int .i64 (i : Int))
    {e : TypeId} (hu : P.underlying t = some (.slice e)) (hi : i < n) {s : Nat} (hsz : (P.info? e).map (·.size) = some s) : Yields P ops o (.pointer (some ⟨g, off + i * s, none⟩)) a := by
  rcases yi_ixa (S := fun _ => True) hw t x y ho hx hy hu hi hsz with ⟨h1, h2⟩ | ⟨h1, _⟩
  · exact .inl ⟨h1, fun w => h2 w trivial⟩
  · rw [hw] at h1; cases h1
theorem own_rg {w : World} {base g n c m s : Nat} {e : TypeId} {xs : List Value} (h : w.ownsRow base e s (.slice (some ⟨g, 0, none⟩) n c) m xs) : w.rangeAt g 0 xs := fun j u hu => by
  have := h.cells (g := g) rfl j u hu
  rw [add_mk] at this
  exact this
/-- rows of unlike types lie apart -/
theorem row_types {w : World} {b1 b2 s1 s2 n1 n2 : Nat} {e1 e2 : TypeId} {v1 v2 : Value} {x1 x2 : List Value} (h1 : w.ownsRow b1 e1 s1 v1 n1 x1) (h2 : w.ownsRow b2 e2 s2 v2 n2 x2) (hne : e1 ≠ e2) : v2.ownBlock = none ∨ v2.ownBlock ≠ v1.ownBlock := by
  rcases h1.2 with ⟨rfl, _⟩ | ⟨g1, c1, cur1, rfl, _, hh1, _⟩
  · rcases h2.2 with ⟨rfl, _⟩ | ⟨g2, c2, cur2, rfl, _⟩
    · exact .inl rfl
    · exact .inr (by simp [Value.ownBlock])
  · rcases h2.2 with ⟨rfl, _⟩ | ⟨g2, c2, cur2, rfl, _, hh2, _⟩
    · exact .inl rfl
    · refine .inr (fun e => ?_)
      simp [Value.ownBlock] at e
      subst e
      rw [hh1] at hh2
      injection hh2 with hh2
      injection hh2 with _ h
      exact hne h
theorem blk_row {w : World} {g b s n : Nat} {t e : TypeId} {v : Value} {cs xs : List Value} (hb : Blk w g t cs) (h : w.ownsRow b e s v n xs) (hne : t ≠ e) : some g ≠ v.ownBlock := by
  rcases h.2 with ⟨rfl, _⟩ | ⟨k, cap, cur, rfl, _, hh, _⟩
  · intro e; cases e
  · intro he
    simp [Value.ownBlock] at he
    subst he
    unfold Blk at hb
    rw [hb] at hh
    injection hh with hh
    injection hh with _ h2
    exact hne h2
end Go.V
