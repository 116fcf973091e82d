/- In: laws inside a fence: new structs, rows of structs, ranges over maps by keys of any kind. No project text. -/
import Derived.Test.YtkoncjcnpconkaaMV
import Derived.Sort.MapsRangeIn
import Derived.RangeFuncSeq
namespace Go.V
open Go.RowKit Go.Maps Go.ChangeShapes Go.WideShapes Go.ChangeMaps
theorem setRow_new (w : World) (z l : Array Value) (t : TypeId) : (w.alloc (.cells z t)).setRow w.heap.size l = w.alloc (.cells l t) := by
  unfold World.setRow World.alloc
  congr 1
  apply Array.ext
  · simp
  · intro i h1 h2
    simp only [Array.getElem_modify, Array.getElem_push]
    by_cases h : i < w.heap.size
    · rw [if_neg (by omega), dif_pos h, dif_pos h]
    · have : i = w.heap.size := by simp at h1; omega
      subst this
      simp
section
variable {Fc : Fence} {n : Nat} {P : Program} {w : World} {ops : Array Oper} {rest : List Oper} {o o1 o2 : Oper} {a : Act} {Q : Exit → Act → World → Prop}
/-- a new variable of a struct's type, and its value stored at once -/
theorem wpIn_newst (t : TypeId) (d : Nat) (y : Operand) (hg1 : o1.guard = none) (hg2 : o2.guard = none) (ho1 : o1.op = .alloc t) (hd1 : o1.dst = some d) (ho2 : o2.op = .store t (.tmp d) y) (hd2 : o2.dst = none)
    {z l : List Value} (hz : (P.info? t).map (·.zero) = some (some (.agg z.toArray))) (hy : (a.put (some d) (.pointer (some ⟨w.heap.size, 0, none⟩))).eval y = .agg l.toArray) (hzl : z.length = l.length) (hi : (P.info? t).map (·.size) = some l.length) (h1 : ∀ v ∈ l, v.oneCell' = true) (hsz : d < a.tmps.size)
    (h : wpListIn Fc n P ops Q rest (a.put (some d) (.pointer (some ⟨w.heap.size, 0, none⟩))) (w.alloc (.cells l.toArray t))) : wpListIn Fc n P ops Q (o1 :: o2 :: rest) a w := by
  refine wpListIn_plain hg1 fun K hK => ?_
  cases hq : P.info? t with
  | none => simp [hq] at hz
  | some i =>
    have hz' : i.zero = some (.agg z.toArray) := by simpa [hq] using hz
    have hs : l.length = i.size := by simp [hq] at hi; omega
    have hr : (Instr.alloc t true (.tuple #[])).run P w = .ok (.pointer (some ⟨w.heap.size, 0, none⟩)) (w.alloc (.cells z.toArray t)) := by
      simp [Instr.alloc, zeroValue, typeInfo, hq, hz', newVar, newRow, Value.cells]
    unfold Oper.wpIn
    refine ⟨by simp [Oper.about, ho1], ?_⟩
    rw [Oper.semAt_plain Fc _ _ (by rw [ho1]; intro c hc'; cases hc')]
    simp only [execOp, ho1, Sem.run_bind, Sem.run_pure, hr, Result.andThen_ok]
    refine hK _ _ ?_
    rw [hd1]
    refine wpListIn_plain hg2 fun K2 hK2 => ?_
    have hx : (a.put (some d) (.pointer (some ⟨w.heap.size, 0, none⟩))).eval (.tmp d) = .pointer (some ⟨w.heap.size, 0, none⟩) := by simp [Act.eval, Act.put, hsz]
    have hst : (storeVar t ⟨w.heap.size, 0, none⟩ (.agg l.toArray)).run P (w.alloc (.cells z.toArray t)) = .ok () (w.alloc (.cells l.toArray t)) := by
      have := run_storeCells_at P w.heap.size 0 t l 0 z.toArray (w.alloc (.cells z.toArray t)) (Blk.new' w t z) (by simp; omega) h1
      simp only [Nat.add_zero, Nat.zero_add] at this
      rw [show z.toArray.toList.take 0 ++ l ++ z.toArray.toList.drop l.length = l from by simp [← hzl], setRow_new] at this
      simp [storeVar, sizeOf, typeInfo, hq, Value.cells, hs]
      simpa [hs] using this
    unfold Oper.wpIn
    refine ⟨by simp [Oper.about, ho2], ?_⟩
    rw [Oper.semAt_plain Fc _ _ (by rw [ho2]; intro c hc'; cases hc')]
    simp only [execOp, ho2, hx, hy, Instr.storeAt, Instr.sureAddr, Sem.run_bind, Sem.run_pure, Result.andThen_ok, hst]
    refine hK2 _ _ ?_
    rw [hd2]
    exact h
/-- 'append(v, x)', x an array or a struct -/
theorem wpIn_pushW (s x : Operand) (d1 : Nat) {t e : TypeId} {z : List Value} {sz by_ : Nat} (ht : SlW P t e z sz by_) (hg1 : o1.guard = none) (hg2 : o2.guard = none)
    (ho1 : o1.op = .buildSlice t 1 #[(0, x)]) (hd1 : o1.dst = some d1) (ho2 : o2.op = .call { callee := .builtin .append, args := #[s, .tmp d1], argTypes := #[t, t] })
    {us : List Value} (hx : a.eval x = .agg us.toArray) (hu : us.length = sz) (h1 : ∀ u ∈ us, u.oneCell' = true) (hsz : d1 < a.tmps.size)
    {base : Nat} {v : Value} {m : Nat} {xs : List Value} (hs : (a.put (some d1) (.slice (some ⟨w.heap.size, 0, none⟩) 1 1)).eval s = v) (hown : w.ownsRow base e sz v m xs)
    (h63 : m + 1 ≤ maxLen) (hb : (m + 1) * by_ ≤ 140737488355328) (hbase : base ≤ w.heap.size)
    (h : ∀ v' w', w'.ownsRow base e sz v' (m + 1) (xs ++ us) → (w.alloc (.cells us.toArray e)).grownBy w' v.ownBlock → w.grownBy w' v.ownBlock →
      wpListIn Fc n P ops Q rest ((a.put (some d1) (.slice (some ⟨w.heap.size, 0, none⟩) 1 1)).put o2.dst v') w') :
    wpListIn Fc n P ops Q (o1 :: o2 :: rest) a w := by
  refine wpListIn_plain hg1 fun K hK => ?_
  have e1 : (Array.map (fun (x : Nat × Operand) => (x.1, a.eval x.2)) #[(0, x)]) = #[(0, .agg us.toArray)] := by simp [hx]
  unfold Oper.wpIn
  refine ⟨by simp [Oper.about, ho1], ?_⟩
  rw [Oper.semAt_plain Fc _ _ (by rw [ho1]; intro c hc'; cases hc')]
  simp only [execOp, ho1, e1, Sem.run_bind, Sem.run_pure, run_bsW ht us hu, Result.andThen_ok]
  refine hK _ _ ?_
  rw [hd1]
  obtain ⟨i, hi, hz, his, hby⟩ := ht.inf
  obtain ⟨v', w', r1, r2, r3, _, _⟩ := run_append_own_at (P := P) (w.alloc (.cells us.toArray e)) base t o2.type e i (.agg z.toArray) sz by_ ht.sl hi hz his hby (by simp [Value.cells, ht.len]) ht.pos v m xs (hown.alloc _) ⟨w.heap.size, 0, none⟩ 1 1 us (by omega)
    (fun j u hj => by rw [add_mk, Nat.zero_add]; exact (Blk.new' w e us).cellAt j u hj) h1 h63 hb (by simp; omega)
  have r4 : w.grownBy w' v.ownBlock := ⟨r3.os, r3.tape, r3.output, by have := r3.size; simp at this; omega, fun k hk hne => (r3.block k (by simp; omega) hne).trans (Below.heap_alloc w _ k hk)⟩
  refine wpListIn_plain hg2 fun K2 hK2 => ?_
  have e2 : (a.put (some d1) (.slice (some ⟨w.heap.size, 0, none⟩) 1 1)).eval (.tmp d1) = .slice (some ⟨w.heap.size, 0, none⟩) 1 1 := by simp [Act.eval, Act.put, hsz]
  unfold Oper.wpIn
  refine ⟨?_, ?_⟩
  · simp [Oper.about, ho2, resolve, Target.leads, Sem.run_pure]
  · rw [Oper.semAt_plain Fc _ _ (by rw [ho2]; intro c hc'; cases hc')]
    simp only [execOp, ho2, resolve, invoke, builtin, Sem.run_bind, Sem.run_pure, Result.andThen_ok, List.map_toArray, List.map_cons, List.map_nil, hs, e2, r1]
    exact hK2 _ _ (h v' w' r2 r3 r4)
end
variable {P : Program} {k : TypeId} {κ β : Type} [DecidableEq κ] {T : MK P k κ β} {w : World} {F : Nat → Prop} {b : Nat} {L : List (κ × β)}
section
variable {Fc : Fence} {n : Nat} {ops : Array Oper} {rest : List Oper} {o : Oper} {a : Act} {Q : Exit → Act → World → Prop}
/-- 'range m' -/
theorem wpIn_rangeS (t e : TypeId) (m : Operand) (hgd : o.guard = none) (ho : o.op = .range t m) (ht : P.underlying t = some (.map k e)) (hm : a.eval m = .map (some b)) (h : MS T w F b L)
    (hK : ∀ w', RS T w' F b w.heap.size [] L → w.grownBy w' none → w'.heap.size = w.heap.size + 1 → wpListIn Fc n P ops Q rest (a.put o.dst (.pointer (some ⟨w.heap.size, 0, none⟩))) w') : wpListIn Fc n P ops Q (o :: rest) a w := by
  have K := T.law
  obtain ⟨l, es, rfl, hown, hp, h5⟩ := h
  refine wpListIn_range_own w hgd m t ho k e K ht heldA b l.length (.map es) hm hown (fun w' hr hg hs => hK w' ?_ hg hs)
  have hkp : ∀ x, x < w.heap.size → F x → F x ∧ w'.heap[x]? = w.heap[x]? := fun x hx hf => ⟨hf, hg.block x hx (by simp)⟩
  refine ⟨[], l, es, _, _, rfl, rfl, hr, by rw [List.nil_append]; exact hp, fun p hp => ?_, fun s => ?_⟩
  · rw [List.nil_append] at hp
    exact T.keep (h5 p hp) hkp
  · rw [Maps.has_eq, List.any_eq_true]
    constructor
    · rintro ⟨q, hq, hs⟩
      obtain ⟨p, hp', rfl⟩ := List.mem_map.1 (hp.mem_iff.1 hq)
      have : decide (p.1.1 = s) = true := by rw [← MK.same (T := T)]; exact hs
      exact ⟨p, hp', of_decide_eq_true this⟩
    · rintro ⟨p, hp', rfl⟩
      exact ⟨entS T p, hp.mem_iff.2 (List.mem_map.2 ⟨p, hp', rfl⟩), WideAt.sameKey_self (MK.key _)⟩
/-- the step -/
theorem wpIn_nextS (it : Operand) (hgd : o.guard = none) (ho : o.op = .next it false) {r : Nat} {dn rs : List (κ × β)} (hit : a.eval it = .pointer (some ⟨r, 0, none⟩)) (h : RS T w F b r dn rs) (hF : ¬ F r)
    (hDone : rs = [] → wpListIn Fc n P ops Q rest (a.put o.dst (.tuple #[.bool false])) w)
    (hMore : ∀ (f : κ × β) rs' v w', rs.Perm (f :: rs') → RS T w' F b r (dn ++ [f]) rs' → T.V w' F v f.2 → w'.rangeLeft b r < w.rangeLeft b r → w.grownBy w' (some r) → w'.heap.size = w.heap.size →
      (Instr.entry (.pointer (some ⟨r, 0, none⟩))).run P w' = .ok (.tuple #[T.kv f.1, v]) w' → wpListIn Fc n P ops Q rest (a.put o.dst (.tuple #[.bool true, T.kv f.1, v])) w') : wpListIn Fc n P ops Q (o :: rest) a w := by
  have K := T.law
  obtain ⟨ld, lr, es, left, cnt, rfl, rfl, hrg, hp, h5, h6⟩ := h
  refine wpListIn_plain hgd fun K' hK' => ?_
  unfold Oper.wpIn
  refine ⟨by simp [Oper.about, ho], ?_⟩
  rw [Oper.semAt_plain Fc _ _ (by rw [ho]; intro c hc'; cases hc')]
  rcases hrg.next K o.type with ⟨h0, hl, hrun⟩ | ⟨key, v, kl, y, w', cnt', hkey, hlk, hv, hat, hrun, hrg', hlt, hgr, hsz, hen⟩
  · simp [execOp, ho, hit, hrun, Result.andThen]
    refine hK' _ _ (hDone ?_)
    match lr, h6 with
    | [], _ => rfl
    | p :: lr, h6 =>
      have := (h6 p.1.1).2 ⟨p, by simp, rfl⟩
      rw [hl] at this
      cases this
  · obtain ⟨s, rfl⟩ := T.inv hkey
    obtain rfl : T.kl s = kl := Option.some.inj ((T.ko s).symm.trans hkey)
    obtain ⟨p, hpl, rfl⟩ := (h6 s).1 hlk
    have hu := entsS_uq hrg.owns hp
    obtain ⟨l1, l2, rfl⟩ := List.append_of_mem hpl
    have hpe : (l1 ++ p :: l2).Perm (p :: (l1 ++ l2)) := List.perm_middle
    have hpm : entS T p ∈ es := hp.mem_iff.2 (List.mem_map.2 ⟨p, by simp, rfl⟩)
    have hy : y.1 = .held p.2 := by
      have hf : (es.find? fun q => q.1.sameKey (T.kl p.1.1)) = some (entS T p) := by
        have h1 := find_perm hp ((hp.pairwise_iff (fun {a b} h => fun e => h ⟨e.2, e.1⟩)).2 (uqS_pair hu p.1.1))
        rw [h1]
        have h2 : ((ld ++ (l1 ++ p :: l2)).map (entS T)).Perm ((p :: (ld ++ (l1 ++ l2))).map (entS T)) := List.Perm.map _ ((hpe.append_left ld).trans List.perm_middle)
        rw [find_perm h2 (uqS_pair hu p.1.1), List.map_cons, List.find?_cons]
        have : (entS T p).1.sameKey (T.kl p.1.1) = true := WideAt.sameKey_self (MK.key _)
        rw [this]
      have h1 := hat (.held v)
      unfold DataW.atKey at h1
      dsimp only at h1
      rw [hf] at h1
      exact h1.symm
    obtain ⟨y1, y2⟩ := y
    have hd := heldA_inv hv
    dsimp only at hy
    rw [hy] at hd
    injection hd with hd
    have hrp := h5 p (by simp)
    have hkp : ∀ x, x < w.heap.size → F x → F x ∧ w'.heap[x]? = w.heap[x]? := fun x hx hf => ⟨hf, hgr.block x hx (fun e => by injection e with e; subst e; exact hF hf)⟩
    have hrp' := T.keep hrp hkp
    rw [hd] at hrp'
    simp [execOp, ho, hit, hrun, Result.andThen]
    have hml := hrg.left_eq
    have hml' := hrg'.left_eq
    refine hK' _ _ (hMore p.1 ((l1 ++ l2).map (·.1)) v w' (hpe.map (·.1)) ⟨ld ++ [p], l1 ++ l2, es, fun z => left z && !z.sameKey (T.kl p.1.1), cnt', by simp, rfl, ?_, ?_, fun q hq => ?_, fun z => ?_⟩ hrp' (by rw [hml, hml']; exact hlt) hgr hsz hen)
    · have e1 : (ld ++ (l1 ++ p :: l2)).length = (ld ++ [p] ++ (l1 ++ l2)).length := by simp; omega
      rw [← e1]
      exact hrg'
    · refine hp.trans (List.Perm.map _ ?_)
      rw [List.append_assoc]
      exact (hpe.append_left ld)
    · have hq' : q ∈ ld ++ (l1 ++ p :: l2) := by simp at hq ⊢; rcases hq with h | h | h | h <;> simp [h]
      exact T.keep (h5 q hq') hkp
    · show (left (T.kl z) && !(T.kl z).sameKey (T.kl p.1.1)) = true ↔ _
      rw [MK.same, Bool.and_eq_true, h6 z]
      constructor
      · rintro ⟨⟨q, hq, rfl⟩, hne⟩
        have hne : ¬ q.1.1 = p.1.1 := by simpa using hne
        refine ⟨q, ?_, rfl⟩
        simp at hq ⊢
        rcases hq with h | rfl | h
        · exact .inl h
        · exact absurd rfl hne
        · exact .inr h
      · rintro ⟨q, hq, rfl⟩
        refine ⟨⟨q, by simp at hq ⊢; rcases hq with h | h <;> simp [h], rfl⟩, ?_⟩
        have hu2 : ((p :: (ld ++ (l1 ++ l2))).map fun p => p.1.1).Nodup := (((hpe.append_left ld).trans List.perm_middle).map _).nodup_iff.1 hu
        rw [List.map_cons, List.nodup_cons] at hu2
        have : ¬ q.1.1 = p.1.1 := fun e => hu2.1 (List.mem_map.2 ⟨q, by simp at hq ⊢; rcases hq with h | h <;> simp [h], e⟩)
        simp [this]
end
/-- a map's keys, whatever it holds at them -/
def MK.keys (T : MK P k κ β) : MK P k κ β := { T with V := fun _ _ _ _ => True, keep := fun h _ => h }
omit [DecidableEq κ] in
theorem MS.keys (h : MS T w F b L) (F' : Nat → Prop) : MS T.keys w F' b L := by
  obtain ⟨l, es, h1, h2, h3, h4⟩ := h
  exact ⟨l, es, h1, h2, h3, fun _ _ => trivial⟩
omit [DecidableEq κ] in
theorem RS.walk {r : Nat} {dn rs : List (κ × β)} (h : RS T w F b r dn rs) : (∃ o : Obj, w.heap[b]? = some o ∧ o.isWalk = true) ∧ ∃ o : Obj, w.heap[r]? = some o ∧ o.isWalk = true := by
  obtain ⟨ld, lr, es, left, cnt, _, _, h3, _⟩ := h
  have h4 := h3.iter_walk
  obtain ⟨es0, clock, since, seen, c0, q1, _⟩ := h3
  exact ⟨⟨_, q1, rfl⟩, h4⟩
end Go.V
