/- MV: maps by keys of any kind: the laws inside a region that draws its order; delete while the map is ranged over; elements that are a struct. No project text. -/
import Derived.Test.YtnpgloeldoiekaaMT
import Derived.Test.YtnpgloeldoiekaaLW
namespace Go.V
open Go.RowKit Go.Maps Go.ChangeShapes Go.WideShapes Go.ChangeMaps
/-- an element that is a struct, as WD tells it -/
def WD.V {α : Type} {n : Nat} (T : WD α n) (w : World) (F : Nat → Prop) (v : Value) (a : α) : Prop := ∃ cs : List Value, v = .agg cs.toArray ∧ WdEl w F T a cs
theorem WD.V_keep {α : Type} {n : Nat} {T : WD α n} {w w' : World} {F F' : Nat → Prop} {v : Value} {a : α} (h : T.V w F v a) (hF : ∀ x, x < w.heap.size → F x → F' x ∧ w'.heap[x]? = w.heap[x]?) : T.V w' F' v a := by
  obtain ⟨cs, rfl, h1⟩ := h
  exact ⟨cs, rfl, h1.keep hF⟩
variable {P : Program} {k : TypeId} {κ β : Type} [DecidableEq κ] {T : MK P k κ β} {w : World} {F : Nat → Prop} {b : Nat} {L : List (κ × β)}
variable {ops : Array Oper} {rest : List Oper} {o : Oper} {a : Act} {Q : Exit → Act → World → Prop} {K : Act → World → Prop} {E : Prop}
/-- what 'm[s]' comes to -/
theorem MS.run_look (h : MS T w F b L) (t e : TypeId) (c : Bool) (ht : P.underlying t = some (.map k e)) {z : Value} (hz : (zeroValue e).run P w = .ok z w) (s : κ) :
    (findS L s = none ∧ (Instr.lookup t (.map (some b)) (T.kv s) c).run P w = .ok (if c then .tuple #[z, .bool false] else z) w) ∨
    ∃ d v, findS L s = some d ∧ T.V w F v d ∧ (Instr.lookup t (.map (some b)) (T.kv s) c).run P w = .ok (if c then .tuple #[v, .bool true] else v) w := by
  obtain ⟨l, es, hown, hf⟩ := h.find s
  have hkey := T.ko s
  cases c with
  | false =>
    obtain ⟨v, ps, hrun, hv⟩ := hown.lookup T.law ht hz (zd := .held z) (zp := []) rfl hkey
    have hd := heldA_inv hv
    rcases hf with ⟨h1, h2, h3⟩ | ⟨d, u, h1, h2, h3, h4⟩
    · rw [h3 (.held z)] at hd
      injection hd with hd
      subst hd
      exact .inl ⟨h1, hrun⟩
    · rw [h4 (.held z)] at hd
      injection hd with hd
      subst hd
      exact .inr ⟨d, _, h1, h2, hrun⟩
  | true =>
    obtain ⟨v, ps, hrun, hv⟩ := hown.look_ok T.law ht hz (zd := .held z) (zp := []) rfl hkey
    have hd := heldA_inv hv
    rcases hf with ⟨h1, h2, h3⟩ | ⟨d, u, h1, h2, h3, h4⟩
    · rw [h3 (.held z)] at hd
      injection hd with hd
      subst hd
      rw [h2] at hrun
      exact .inl ⟨h1, hrun⟩
    · rw [h4 (.held z)] at hd
      injection hd with hd
      subst hd
      rw [h3] at hrun
      exact .inr ⟨d, _, h1, h2, hrun⟩
/-- what 'm[s] = v' comes to -/
theorem MS.run_put (h : MS T w F b L) (t e : TypeId) (ht : P.underlying t = some (.map k e)) (hL : L.length < maxLen) (s : κ) {v : Value} {d : β} (hv : T.V w F v d) (hF : ¬ F b) :
    ∃ w', (Instr.mapUpdate t (.map (some b)) (T.kv s) v).run P w = .ok () w' ∧ MS T w' F b ((s, d) :: woS L s) ∧ w.grownBy w' (some b) ∧ w.heap.size = w'.heap.size := by
  obtain ⟨l, es, h1, hown, hp, h5⟩ := h
  have hl : l.length < maxLen := by rw [← h1] at hL; simpa using hL
  obtain ⟨w', hrun, ho', ht'⟩ := hown.store (val := v) (d := .held v) (ps := []) T.law ht hl (T.ko s) rfl
  have hg := ht'.grown
  have hkp : ∀ x, x < w.heap.size → F x → F x ∧ w'.heap[x]? = w.heap[x]? := fun x hx hf => ⟨hf, hg.block x hx (fun e => by injection e with e; subst e; exact hF hf)⟩
  refine ⟨w', hrun, MS.put_of h1 hp (fun p hp => T.keep (h5 p hp) hkp) (T.keep hv hkp) ho', hg, ?_⟩
  obtain ⟨es1, clock, es2, clock2, _, rfl⟩ := ht'
  simp [ChangeMaps.setBlock]
/-- what 'delete(m, s)' comes to -/
theorem MS.run_del (h : MS T w F b L) (t e : TypeId) (ht : P.underlying t = some (.map k e)) (s : κ) (hF : ¬ F b) (ty : TypeId) :
    ∃ w', (Builtin.delete_ #[t, k] ty #[.map (some b), T.kv s]).run P w = .ok (.tuple #[]) w' ∧ MS T w' F b (woS L s) ∧ w.grownBy w' (some b) ∧ w.heap.size = w'.heap.size := by
  obtain ⟨l, es, h1, hown, hp, h5⟩ := h
  obtain ⟨w', hrun, ho', ht'⟩ := hown.drop T.law ht (T.ko s) ty
  have hg := ht'.grown
  have hkp : ∀ x, x < w.heap.size → F x → F x ∧ w'.heap[x]? = w.heap[x]? := fun x hx hf => ⟨hf, hg.block x hx (fun e => by injection e with e; subst e; exact hF hf)⟩
  refine ⟨w', hrun, MS.del_of h1 hp (fun p hp => T.keep (h5 p hp) hkp) ho', hg, ?_⟩
  obtain ⟨es1, clock, es2, clock2, _, rfl⟩ := ht'
  simp [ChangeMaps.setBlock]
/-- 'v, ok := m[s]' and 'm[s]', in a region that draws its order -/
theorem step_lookS (t e : TypeId) (m x : Operand) (c : Bool) (hgd : o.guard = none) (ho : o.op = .lookup t m x c) (ht : P.underlying t = some (.map k e)) {z : Value} (hz : (zeroValue e).run P w = .ok z w)
    (hm : a.eval m = .map (some b)) (h : MS T w F b L) {s : κ} (hx : a.eval x = T.kv s)
    (hN : findS L s = none → K (a.put o.dst (if c then .tuple #[z, .bool false] else z)) w)
    (hY : ∀ d v, findS L s = some d → T.V w F v d → K (a.put o.dst (if c then .tuple #[v, .bool true] else v)) w) : if Region.wanted o (yielded ops a.tmps) = true then Oper.wp P o a w K Q else E := by
  have hw : Region.wanted o (yielded ops a.tmps) = true := by simp [Region.wanted, hgd]
  rw [if_pos hw]
  rcases h.run_look t e c ht hz s with ⟨h1, hrun⟩ | ⟨d, v, h1, h2, hrun⟩
  · unfold Oper.wp execOp
    simp only [ho, hm, hx, Sem.run_bind, Sem.run_pure, hrun, Result.andThen_ok]
    exact hN h1
  · unfold Oper.wp execOp
    simp only [ho, hm, hx, Sem.run_bind, Sem.run_pure, hrun, Result.andThen_ok]
    exact hY d v h1 h2
/-- 'm[s] = v', in a region that draws its order -/
theorem step_putS (t e : TypeId) (m x y : Operand) (hgd : o.guard = none) (ho : o.op = .mapUpdate t m x y) (ht : P.underlying t = some (.map k e))
    (hm : a.eval m = .map (some b)) (h : MS T w F b L) (hL : L.length < maxLen) {s : κ} (hx : a.eval x = T.kv s) {v : Value} (hy : a.eval y = v) {d : β} (hv : T.V w F v d) (hF : ¬ F b)
    (hK : ∀ w', MS T w' F b ((s, d) :: woS L s) → w.grownBy w' (some b) → w.heap.size = w'.heap.size → K (a.put o.dst undef) w') : if Region.wanted o (yielded ops a.tmps) = true then Oper.wp P o a w K Q else E := by
  have hw : Region.wanted o (yielded ops a.tmps) = true := by simp [Region.wanted, hgd]
  rw [if_pos hw]
  obtain ⟨w', hrun, h1, h2, h3⟩ := h.run_put t e ht hL s hv hF
  unfold Oper.wp execOp
  simp only [ho, hm, hx, hy, Sem.run_bind, Sem.run_pure, hrun, Result.andThen_ok]
  exact hK w' h1 h2 h3
/-- 'delete(m, s)', in a region that draws its order -/
theorem step_delS (t e : TypeId) (m x : Operand) (hgd : o.guard = none) (ho : o.op = .call { callee := .builtin .delete, args := #[m, x], argTypes := #[t, k] }) (ht : P.underlying t = some (.map k e))
    (hm : a.eval m = .map (some b)) (h : MS T w F b L) {s : κ} (hx : a.eval x = T.kv s) (hF : ¬ F b)
    (hK : ∀ w', MS T w' F b (woS L s) → w.grownBy w' (some b) → w.heap.size = w'.heap.size → K (a.put o.dst (.tuple #[])) w') : if Region.wanted o (yielded ops a.tmps) = true then Oper.wp P o a w K Q else E := by
  have hw : Region.wanted o (yielded ops a.tmps) = true := by simp [Region.wanted, hgd]
  rw [if_pos hw]
  obtain ⟨w', hrun, h1, h2, h3⟩ := h.run_del t e ht s hF o.type
  unfold Oper.wp
  simp [execOp, ho, resolve, invoke, builtin, hm, hx, hrun, Result.andThen]
  exact hK w' h1 h2 h3
omit [DecidableEq κ] in
theorem ranges_tight {R : Value → Option (DataW Value × List MemPlace)} {r n cnt : Nat} {D : DataW Value} {left : Lit → Bool} (h : w.ranges P k R b r n D left cnt) : w.ranges P k R b r (Maps.size D) D left cnt := by
  obtain ⟨es, clock, since, seen, c0, h1, h2, h3, rfl, h5⟩ := h
  exact ⟨es, clock, since, seen, c0, h1, h2, by simp [Maps.size, length_sorted], rfl, h5⟩
/-- 'delete(m, s)' while the map is ranged over -/
theorem RS.run_del {r : Nat} {dn rs : List (κ × β)} (h : RS T w F b r dn rs) (t e : TypeId) (ht : P.underlying t = some (.map k e)) (s : κ) (hF : ¬ F b) (ty : TypeId) :
    ∃ w', (Builtin.delete_ #[t, k] ty #[.map (some b), T.kv s]).run P w = .ok (.tuple #[]) w' ∧ RS T w' F b r (woS dn s) (woS rs s) ∧ w'.rangeLeft b r ≤ w.rangeLeft b r ∧ w.grownBy w' (some b) ∧ w.heap.size = w'.heap.size := by
  obtain ⟨ld, lr, es, left, cnt, rfl, rfl, hrg, hp, h5, h6⟩ := h
  obtain ⟨w', cnt', hrun, hrg', hle, ht'⟩ := hrg.drop T.law ht (T.ko s) ty
  have hg := ht'.grown
  have hkp : ∀ x, x < w.heap.size → F x → F x ∧ w'.heap[x]? = w.heap[x]? := fun x hx hf => ⟨hf, hg.block x hx (fun e => by injection e with e; subst e; exact hF hf)⟩
  have hpp : (es.filter fun p => !p.1.sameKey (T.kl s)).Perm (((ld.filter fun p => decide (p.1.1 ≠ s)) ++ lr.filter fun p => decide (p.1.1 ≠ s)).map (entS T)) := by
    rw [← List.filter_append, ← entS_filter]
    exact hp.filter _
  refine ⟨w', hrun, ⟨ld.filter fun p => decide (p.1.1 ≠ s), lr.filter fun p => decide (p.1.1 ≠ s), _, fun x => left x && !x.sameKey (T.kl s), cnt', (woS_map ld s).symm, (woS_map lr s).symm, ?_, hpp, fun p hp => ?_, fun z => ?_⟩, by rw [hrg.left_eq, hrg'.left_eq]; exact hle, hg, ?_⟩
  · have := ranges_tight hrg'
    have e1 : Maps.size ((DataW.map es).del (T.kl s)) = ((ld.filter fun p => decide (p.1.1 ≠ s)) ++ lr.filter fun p => decide (p.1.1 ≠ s)).length := by
      show (es.filter fun p => !p.1.sameKey (T.kl s)).length = _
      rw [hpp.length_eq, List.length_map]
    rw [e1] at this
    exact this
  · rw [← List.filter_append] at hp
    exact T.keep (h5 p (List.mem_filter.1 hp).1) hkp
  · show (left (T.kl z) && !(T.kl z).sameKey (T.kl s)) = true ↔ _
    rw [MK.same, Bool.and_eq_true, h6 z]
    constructor
    · rintro ⟨⟨q, hq, rfl⟩, hne⟩
      have hne : ¬ q.1.1 = s := by simpa using hne
      exact ⟨q, List.mem_filter.2 ⟨hq, decide_eq_true hne⟩, rfl⟩
    · rintro ⟨q, hq, rfl⟩
      obtain ⟨h1, h2⟩ := List.mem_filter.1 hq
      exact ⟨⟨q, h1, rfl⟩, by simpa using of_decide_eq_true h2⟩
  · obtain ⟨es1, clock, es2, clock2, _, rfl⟩ := ht'
    simp [ChangeMaps.setBlock]
/-- .. in a region in the text's order -/
theorem wp_delRS {r : Nat} {dn rs : List (κ × β)} (t e : TypeId) (m x : Operand) (hgd : o.guard = none) (ho : o.op = .call { callee := .builtin .delete, args := #[m, x], argTypes := #[t, k] }) (ht : P.underlying t = some (.map k e))
    (hm : a.eval m = .map (some b)) (h : RS T w F b r dn rs) {s : κ} (hx : a.eval x = T.kv s) (hF : ¬ F b)
    (hK : ∀ w', RS T w' F b r (woS dn s) (woS rs s) → w'.rangeLeft b r ≤ w.rangeLeft b r → w.grownBy w' (some b) → w.heap.size = w'.heap.size → wpList P ops Q rest (a.put o.dst (.tuple #[])) w') : wpList P ops Q (o :: rest) a w := by
  refine wpList_plain hgd fun K' hK' => ?_
  obtain ⟨w', hrun, h1, h2, h3, h4⟩ := h.run_del t e ht s hF o.type
  unfold Oper.wp
  simp [execOp, ho, resolve, invoke, builtin, hm, hx, hrun, Result.andThen]
  exact hK' _ _ (hK w' h1 h2 h3 h4)
/-- .. in a region that draws its order -/
theorem step_delRS {r : Nat} {dn rs : List (κ × β)} (t e : TypeId) (m x : Operand) (hgd : o.guard = none) (ho : o.op = .call { callee := .builtin .delete, args := #[m, x], argTypes := #[t, k] }) (ht : P.underlying t = some (.map k e))
    (hm : a.eval m = .map (some b)) (h : RS T w F b r dn rs) {s : κ} (hx : a.eval x = T.kv s) (hF : ¬ F b)
    (hK : ∀ w', RS T w' F b r (woS dn s) (woS rs s) → w'.rangeLeft b r ≤ w.rangeLeft b r → w.grownBy w' (some b) → w.heap.size = w'.heap.size → K (a.put o.dst (.tuple #[])) w') : if Region.wanted o (yielded ops a.tmps) = true then Oper.wp P o a w K Q else E := by
  have hw : Region.wanted o (yielded ops a.tmps) = true := by simp [Region.wanted, hgd]
  rw [if_pos hw]
  obtain ⟨w', hrun, h1, h2, h3, h4⟩ := h.run_del t e ht s hF o.type
  unfold Oper.wp
  simp [execOp, ho, resolve, invoke, builtin, hm, hx, hrun, Result.andThen]
  exact hK w' h1 h2 h3 h4
/-- what no key of the list is taken away -/
theorem woS_none {L : List (κ × β)} {s : κ} (h : ∀ p ∈ L, p.1 ≠ s) : woS L s = L := by
  unfold woS
  exact List.filter_eq_self.2 (fun p hp => decide_eq_true (h p hp))
theorem woS_app (L M : List (κ × β)) (s : κ) : woS (L ++ M) s = woS L s ++ woS M s := by unfold woS; rw [List.filter_append]
end Go.V
