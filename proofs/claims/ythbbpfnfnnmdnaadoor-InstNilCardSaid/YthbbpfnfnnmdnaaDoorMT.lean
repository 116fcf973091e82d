/- MT: several texts in one (MS MT). -/
import Derived.Test.YthbbpfnfnnmdnaaDoorMP
import Derived.DeepKeys4
/- MpS: maps by keys of any kind (structs among them) whose elements read by any relation: XMP's laws with a bundle in the place of names and bytes. No project text. -/
namespace Go.V
open Go.RowKit Go.Maps Go.ChangeShapes Go.WideShapes Go.ChangeMaps
/-- how keys stand in a map, and how its elements read -/
structure MK (P : Program) (k : TypeId) (κ β : Type) where
  kv : κ → Value
  kl : κ → Lit
  V : World → (Nat → Prop) → Value → β → Prop
  law : Keyed P k
  ko : ∀ x, keyOf P k (kv x) = some (kl x)
  inv : ∀ {v l}, keyOf P k v = some l → ∃ x, v = kv x
  kvi : ∀ {x y}, kv x = kv y → x = y
  keep : ∀ {w w' : World} {F F' : Nat → Prop} {v : Value} {d : β}, V w F v d → (∀ x, x < w.heap.size → F x → F' x ∧ w'.heap[x]? = w.heap[x]?) → V w' F' v d
variable {P : Program} {k : TypeId} {κ β : Type} [DecidableEq κ] {T : MK P k κ β}
omit [DecidableEq κ] in
theorem MK.inj {s t : κ} (h : T.kl s = T.kl t) : s = t := T.kvi (T.law.inj (T.ko s) (by rw [h]; exact T.ko t))
omit [DecidableEq κ] in
theorem MK.key (s : κ) : WideAt.IsKeyLit (T.kl s) := T.law.key (T.ko s)
theorem MK.same (s t : κ) : (T.kl s).sameKey (T.kl t) = decide (s = t) := by
  by_cases h : s = t
  · subst h; rw [decide_eq_true rfl]; exact WideAt.sameKey_self (MK.key s)
  · rw [decide_eq_false h]
    cases hs : (T.kl s).sameKey (T.kl t) with
    | false => rfl
    | true => exact absurd (MK.inj (WideAt.sameKey_eq hs)) h
/-- how an element reads: as itself -/
def heldA (v : Value) : Option (DataW Value × List MemPlace) := some (.held v, [])
theorem heldA_inv {v : Value} {d : DataW Value} {ps : List MemPlace} (h : heldA v = some (d, ps)) : d = .held v := by
  unfold heldA at h
  injection h with h
  injection h with h1 h2
  exact h1.symm
def entS (T : MK P k κ β) (p : (κ × β) × Value) : Lit × DataW Value := (T.kl p.1.1, .held p.2)
def findS (L : List (κ × β)) (s : κ) : Option β := (L.find? fun p => decide (p.1 = s)).map (·.2)
def woS (L : List (κ × β)) (s : κ) : List (κ × β) := L.filter fun p => decide (p.1 ≠ s)
theorem findS_none {s : κ} {L : List (κ × β)} (h : findS L s = none) : ∀ p ∈ L, p.1 ≠ s := by
  intro p hp e
  unfold findS at h
  rw [Option.map_eq_none_iff, List.find?_eq_none] at h
  exact h p hp (decide_eq_true e)
/-- block b is a map that holds L -/
def MpS (T : MK P k κ β) (w : World) (F : Nat → Prop) (b : Nat) (L : List (κ × β)) : Prop :=
  ∃ (l : List ((κ × β) × Value)) (es : List (Lit × DataW Value)), l.map (·.1) = L ∧ w.ownsMap P k heldA b l.length (.map es) ∧ es.Perm (l.map (entS T)) ∧ ∀ p ∈ l, T.V w F p.2 p.1.2
variable {w : World} {F : Nat → Prop} {b : Nat} {L : List (κ × β)}
omit [DecidableEq κ] in
theorem MpS.lt (h : MpS T w F b L) : b < w.heap.size := by
  obtain ⟨l, es, _, ho, _⟩ := h
  exact ho.lt
omit [DecidableEq κ] in
theorem MpS.keep {w' : World} {F' : Nat → Prop} (h : MpS T w F b L) (hb : w'.heap[b]? = w.heap[b]?) (hF : ∀ x, x < w.heap.size → F x → F' x ∧ w'.heap[x]? = w.heap[x]?) : MpS T w' F' b L := by
  obtain ⟨l, es, h1, ⟨es0, clock, h2, h3⟩, h4, h5⟩ := h
  exact ⟨l, es, h1, ⟨es0, clock, hb.trans h2, h3⟩, h4, fun p hp => T.keep (h5 p hp) hF⟩
omit [DecidableEq κ] in
theorem MpS.below {w' : World} (h : MpS T w F b L) (hB : Below w.heap.size w w') : MpS T w' F b L :=
  h.keep (hB.block b h.lt) (fun x hx hF => ⟨hF, hB.block x hx⟩)
omit [DecidableEq κ] in
theorem MpS.weak {F' : Nat → Prop} (h : MpS T w F b L) (hF : ∀ x, x < w.heap.size → F x → F' x) : MpS T w F' b L :=
  h.keep rfl (fun x hx h => ⟨hF x hx h, rfl⟩)
omit [DecidableEq κ] in
theorem entsS_uq {n : Nat} {l : List ((κ × β) × Value)} {es : List (Lit × DataW Value)} (ho : w.ownsMap P k heldA b n (.map es)) (hp : es.Perm (l.map (entS T))) : (l.map fun p => p.1.1).Nodup := by
  obtain ⟨es', he, h2, _⟩ := ho.entries T.law
  cases he
  have h3 := (hp.pairwise_iff (fun {a b} (h : a.1 ≠ b.1) => h.symm)).1 h2
  rw [List.pairwise_map] at h3
  rw [List.Nodup, List.pairwise_map]
  exact h3.imp (fun h e => h (by unfold entS; rw [e]))
omit [DecidableEq κ] in
theorem MpS.uq (h : MpS T w F b L) : (L.map (·.1)).Nodup := by
  obtain ⟨l, es, rfl, ho, hp, _⟩ := h
  have := entsS_uq ho hp
  rwa [List.map_map]
omit [DecidableEq κ] in
theorem MpS.perm {L' : List (κ × β)} (h : MpS T w F b L) (hL : L.Perm L') : MpS T w F b L' := by
  obtain ⟨l, es, rfl, ho, hp, h5⟩ := h
  obtain ⟨l', h1, h2⟩ : ∃ l' : List ((κ × β) × Value), l'.map (·.1) = L' ∧ l.Perm l' := perm_lift hL l rfl
  exact ⟨l', es, h1, by rw [← h2.length_eq]; exact ho, hp.trans (h2.map _), fun p hp => h5 p (h2.mem_iff.2 hp)⟩
/-- what is found at a key -/
theorem entS_find (s : κ) : ∀ (l : List ((κ × β) × Value)), ((l.map (entS T)).find? fun q => q.1.sameKey (T.kl s)) = (l.find? fun p => decide (p.1.1 = s)).map (entS T)
  | [] => rfl
  | p :: l => by
    rw [List.map_cons, List.find?_cons, List.find?_cons]
    have : (entS T p).1.sameKey (T.kl s) = decide (p.1.1 = s) := MK.same _ _
    rw [this]
    by_cases h : p.1.1 = s
    · rw [decide_eq_true h]; rfl
    · rw [decide_eq_false h]; exact entS_find s l
theorem findS_map (s : κ) (l : List ((κ × β) × Value)) : findS (l.map (·.1)) s = (l.find? fun p => decide (p.1.1 = s)).map fun p => p.1.2 := by
  unfold findS
  rw [List.find?_map]
  show ((l.find? fun p => decide (p.1.1 = s)).map (·.1)).map (·.2) = _
  cases l.find? fun p => decide (p.1.1 = s) <;> rfl
theorem uqS_pair {l : List ((κ × β) × Value)} (h : (l.map fun p => p.1.1).Nodup) (s : κ) : (l.map (entS T)).Pairwise fun x y => ¬ (x.1.sameKey (T.kl s) = true ∧ y.1.sameKey (T.kl s) = true) := by
  rw [List.Nodup, List.pairwise_map] at h
  rw [List.pairwise_map]
  refine h.imp (fun {p q} hne hh => hne ?_)
  have h1 : decide (p.1.1 = s) = true := by rw [← MK.same (T := T)]; exact hh.1
  have h2 : decide (q.1.1 = s) = true := by rw [← MK.same (T := T)]; exact hh.2
  rw [of_decide_eq_true h1, of_decide_eq_true h2]
/-- the element at a key -/
theorem MpS.find (h : MpS T w F b L) (s : κ) : ∃ (l : List ((κ × β) × Value)) (es : List (Lit × DataW Value)), w.ownsMap P k heldA b l.length (.map es) ∧
    ((findS L s = none ∧ Maps.has (.map es) (T.kl s) = false ∧ ∀ z : DataW Value, (DataW.map es).atKey (T.kl s) z = z) ∨
     ∃ c v, findS L s = some c ∧ T.V w F v c ∧ Maps.has (.map es) (T.kl s) = true ∧ ∀ z : DataW Value, (DataW.map es).atKey (T.kl s) z = .held v) := by
  obtain ⟨l, es, rfl, ho, hp, h5⟩ := h
  refine ⟨l, es, ho, ?_⟩
  have hu := entsS_uq ho hp
  have hf : (es.find? fun q => q.1.sameKey (T.kl s)) = (l.find? fun p => decide (p.1.1 = s)).map (entS T) := by
    rw [← entS_find]
    exact find_perm hp ((hp.pairwise_iff (fun {a b} h => fun e => h ⟨e.2, e.1⟩)).2 (uqS_pair hu s))
  have hat : ∀ z : DataW Value, (DataW.map es).atKey (T.kl s) z = match (l.find? fun p => decide (p.1.1 = s)) with | some p => .held p.2 | none => z := fun z => by
    unfold DataW.atKey
    dsimp only
    rw [hf]
    cases l.find? fun p => decide (p.1.1 = s) <;> rfl
  have hha : Maps.has (.map es) (T.kl s) = (l.find? fun p => decide (p.1.1 = s)).isSome := by
    rw [Maps.has_eq, any_find, hf]
    cases l.find? fun p => decide (p.1.1 = s) <;> rfl
  rw [findS_map]
  cases hq : l.find? fun p => decide (p.1.1 = s) with
  | none =>
    rw [hq] at hha
    exact .inl ⟨rfl, hha, fun z => by rw [hat, hq]⟩
  | some p =>
    rw [hq] at hha
    exact .inr ⟨p.1.2, p.2, rfl, h5 p (List.mem_of_find?_eq_some hq), hha, fun z => by rw [hat, hq]⟩
section
variable {ops : Array Oper} {rest : List Oper} {o : Oper} {a : Act} {Q : Exit → Act → World → Prop}
end
theorem woS_map (l : List ((κ × β) × Value)) (s : κ) : woS (l.map (·.1)) s = (l.filter fun p => decide (p.1.1 ≠ s)).map (·.1) := by
  unfold woS
  rw [List.filter_map]
  rfl
theorem entS_filter (s : κ) (l : List ((κ × β) × Value)) : (l.map (entS T)).filter (fun q => !q.1.sameKey (T.kl s)) = (l.filter fun p => decide (p.1.1 ≠ s)).map (entS T) := by
  rw [List.filter_map]
  congr 1
  refine List.filter_congr (fun p _ => ?_)
  show (!(T.kl p.1.1).sameKey (T.kl s)) = _
  rw [MK.same]
  by_cases h : p.1.1 = s <;> simp [h]
/-- the datum behind a store -/
theorem MpS.put_of {w' : World} {F' : Nat → Prop} {n : Nat} {l : List ((κ × β) × Value)} {es : List (Lit × DataW Value)} {s : κ} {d : β} {v : Value} (h1 : l.map (·.1) = L) (hp : es.Perm (l.map (entS T))) (h5 : ∀ p ∈ l, T.V w' F' p.2 p.1.2)
    (hv : T.V w' F' v d) (ho : w'.ownsMap P k heldA b n ((DataW.map es).put (T.kl s) (.held v))) : MpS T w' F' b ((s, d) :: woS L s) := by
  subst h1
  have hpp : (DataW.insert (T.kl s, DataW.held v) (es.filter fun p => !p.1.sameKey (T.kl s))).Perm ((((s, d), v) :: l.filter fun p => decide (p.1.1 ≠ s)).map (entS T)) := by
    refine (insert_perm _ _).trans ?_
    rw [List.map_cons, ← entS_filter]
    exact (hp.filter _).cons _
  refine ⟨((s, d), v) :: l.filter fun p => decide (p.1.1 ≠ s), _, by rw [List.map_cons, woS_map], ?_, hpp, fun p hp => ?_⟩
  · have := own_tight ho
    have e1 : Maps.size ((DataW.map es).put (T.kl s) (.held v)) = (((s, d), v) :: l.filter fun p => decide (p.1.1 ≠ s)).length := by
      show (DataW.insert (T.kl s, DataW.held v) (es.filter fun p => !p.1.sameKey (T.kl s))).length = _
      rw [hpp.length_eq, List.length_map]
    rw [e1] at this
    exact this
  · rcases List.mem_cons.1 hp with rfl | hp
    · exact hv
    · exact h5 p (List.mem_filter.1 hp).1
section
variable {ops : Array Oper} {rest : List Oper} {o : Oper} {a : Act} {Q : Exit → Act → World → Prop}
end
/-- a range over the map, by iterator r: dn have come, rs are still to come -/
def RS (T : MK P k κ β) (w : World) (F : Nat → Prop) (b r : Nat) (dn rs : List (κ × β)) : Prop :=
  ∃ (ld lr : List ((κ × β) × Value)) (es : List (Lit × DataW Value)) (left : Lit → Bool) (cnt : Nat), ld.map (·.1) = dn ∧ lr.map (·.1) = rs ∧ w.ranges P k heldA b r (ld ++ lr).length (.map es) left cnt ∧ es.Perm ((ld ++ lr).map (entS T)) ∧
    (∀ p ∈ ld ++ lr, T.V w F p.2 p.1.2) ∧ ∀ s, left (T.kl s) = true ↔ ∃ p ∈ lr, p.1.1 = s
omit [DecidableEq κ] in
theorem RS.owns {r : Nat} {dn rs : List (κ × β)} (h : RS T w F b r dn rs) : MpS T w F b (dn ++ rs) := by
  obtain ⟨ld, lr, es, left, cnt, rfl, rfl, h3, h4, h5, _⟩ := h
  exact ⟨ld ++ lr, es, by rw [List.map_append], h3.owns, h4, h5⟩
omit [DecidableEq κ] in
theorem RS.keep {w' : World} {F' : Nat → Prop} {r : Nat} {dn rs : List (κ × β)} (h : RS T w F b r dn rs) (hb : w'.heap[b]? = w.heap[b]?) (hr : w'.heap[r]? = w.heap[r]?) (hF : ∀ x, x < w.heap.size → F x → F' x ∧ w'.heap[x]? = w.heap[x]?) : RS T w' F' b r dn rs ∧ w'.rangeLeft b r = w.rangeLeft b r := by
  obtain ⟨ld, lr, es, left, cnt, h1, h2, ⟨es0, clock, since, seen, c0, q1, q2, q3, q4, q5, q6⟩, h4, h5, h6⟩ := h
  exact ⟨⟨ld, lr, es, left, cnt, h1, h2, ⟨es0, clock, since, seen, c0, hb.trans q1, q2, q3, q4, hr.trans q5, q6⟩, h4, fun p hp => T.keep (h5 p hp) hF, h6⟩, by unfold World.rangeLeft; rw [hb, hr]⟩
section
variable {ops : Array Oper} {rest : List Oper} {o : Oper} {a : Act} {Q : Exit → Act → World → Prop}
/-- 'range m' -/
theorem wp_rangeS (t e : TypeId) (m : Operand) (hgd : o.guard = none) (ho : o.op = .range t m) (ht : P.underlying t = some (.map k e)) (hm : a.eval m = .map (some b)) (h : MpS T w F b L)
    (hK : ∀ w', RS T w' F b w.heap.size [] L → w.grownBy w' none → w'.heap.size = w.heap.size + 1 → wpList P ops Q rest (a.put o.dst (.pointer (some ⟨w.heap.size, 0, none⟩))) w') : wpList P ops Q (o :: rest) a w := by
  have K := T.law
  obtain ⟨l, es, rfl, hown, hp, h5⟩ := h
  refine wpList_range_own w hgd m t ho k e K ht heldA b l.length (.map es) hm hown (fun w' hr hg hs => hK w' ?_ hg hs)
  have hkp : ∀ x, x < w.heap.size → F x → F x ∧ w'.heap[x]? = w.heap[x]? := fun x hx hf => ⟨hf, hg.block x hx (by simp)⟩
  refine ⟨[], l, es, _, _, rfl, rfl, hr, by rw [List.nil_append]; exact hp, fun p hp => ?_, fun s => ?_⟩
  · rw [List.nil_append] at hp
    exact T.keep (h5 p hp) hkp
  · rw [Maps.has_eq, List.any_eq_true]
    constructor
    · rintro ⟨q, hq, hs⟩
      obtain ⟨p, hp', rfl⟩ := List.mem_map.1 (hp.mem_iff.1 hq)
      have : decide (p.1.1 = s) = true := by rw [← MK.same (T := T)]; exact hs
      exact ⟨p, hp', of_decide_eq_true this⟩
    · rintro ⟨p, hp', rfl⟩
      exact ⟨entS T p, hp.mem_iff.2 (List.mem_map.2 ⟨p, hp', rfl⟩), WideAt.sameKey_self (MK.key _)⟩
/-- the step -/
theorem wp_nextS (it : Operand) (hgd : o.guard = none) (ho : o.op = .next it false) {r : Nat} {dn rs : List (κ × β)} (hit : a.eval it = .pointer (some ⟨r, 0, none⟩)) (h : RS T w F b r dn rs) (hF : ¬ F r)
    (hDone : rs = [] → wpList P ops Q rest (a.put o.dst (.tuple #[.bool false])) w)
    (hMore : ∀ (f : κ × β) rs' v w', rs.Perm (f :: rs') → RS T w' F b r (dn ++ [f]) rs' → T.V w' F v f.2 → w'.rangeLeft b r < w.rangeLeft b r → w.grownBy w' (some r) → w'.heap.size = w.heap.size →
      (Instr.entry (.pointer (some ⟨r, 0, none⟩))).run P w' = .ok (.tuple #[T.kv f.1, v]) w' → wpList P ops Q rest (a.put o.dst (.tuple #[.bool true, T.kv f.1, v])) w') : wpList P ops Q (o :: rest) a w := by
  have K := T.law
  obtain ⟨ld, lr, es, left, cnt, rfl, rfl, hrg, hp, h5, h6⟩ := h
  refine wpList_plain hgd fun K' hK' => ?_
  unfold Oper.wp
  rcases hrg.next K o.type with ⟨h0, hl, hrun⟩ | ⟨key, v, kl, y, w', cnt', hkey, hlk, hv, hat, hrun, hrg', hlt, hgr, hsz, hen⟩
  · simp [execOp, ho, hit, hrun, Result.andThen]
    refine hK' _ _ (hDone ?_)
    match lr, h6 with
    | [], _ => rfl
    | p :: lr, h6 =>
      have := (h6 p.1.1).2 ⟨p, by simp, rfl⟩
      rw [hl] at this
      cases this
  · obtain ⟨s, rfl⟩ := T.inv hkey
    obtain rfl : T.kl s = kl := Option.some.inj ((T.ko s).symm.trans hkey)
    obtain ⟨p, hpl, rfl⟩ := (h6 s).1 hlk
    have hu := entsS_uq hrg.owns hp
    obtain ⟨l1, l2, rfl⟩ := List.append_of_mem hpl
    have hpe : (l1 ++ p :: l2).Perm (p :: (l1 ++ l2)) := List.perm_middle
    have hpm : entS T p ∈ es := hp.mem_iff.2 (List.mem_map.2 ⟨p, by simp, rfl⟩)
    have hy : y.1 = .held p.2 := by
      have hf : (es.find? fun q => q.1.sameKey (T.kl p.1.1)) = some (entS T p) := by
        have h1 := find_perm hp ((hp.pairwise_iff (fun {a b} h => fun e => h ⟨e.2, e.1⟩)).2 (uqS_pair hu p.1.1))
        rw [h1]
        have h2 : ((ld ++ (l1 ++ p :: l2)).map (entS T)).Perm ((p :: (ld ++ (l1 ++ l2))).map (entS T)) := List.Perm.map _ ((hpe.append_left ld).trans List.perm_middle)
        rw [find_perm h2 (uqS_pair hu p.1.1), List.map_cons, List.find?_cons]
        have : (entS T p).1.sameKey (T.kl p.1.1) = true := WideAt.sameKey_self (MK.key _)
        rw [this]
      have h1 := hat (.held v)
      unfold DataW.atKey at h1
      dsimp only at h1
      rw [hf] at h1
      exact h1.symm
    obtain ⟨y1, y2⟩ := y
    have hd := heldA_inv hv
    dsimp only at hy
    rw [hy] at hd
    injection hd with hd
    have hrp := h5 p (by simp)
    have hkp : ∀ x, x < w.heap.size → F x → F x ∧ w'.heap[x]? = w.heap[x]? := fun x hx hf => ⟨hf, hgr.block x hx (fun e => by injection e with e; subst e; exact hF hf)⟩
    have hrp' := T.keep hrp hkp
    rw [hd] at hrp'
    simp [execOp, ho, hit, hrun, Result.andThen]
    have hml := hrg.left_eq
    have hml' := hrg'.left_eq
    refine hK' _ _ (hMore p.1 ((l1 ++ l2).map (·.1)) v w' (hpe.map (·.1)) ⟨ld ++ [p], l1 ++ l2, es, fun z => left z && !z.sameKey (T.kl p.1.1), cnt', by simp, rfl, ?_, ?_, fun q hq => ?_, fun z => ?_⟩ hrp' (by rw [hml, hml']; exact hlt) hgr hsz hen)
    · have e1 : (ld ++ (l1 ++ p :: l2)).length = (ld ++ [p] ++ (l1 ++ l2)).length := by simp; omega
      rw [← e1]
      exact hrg'
    · refine hp.trans (List.Perm.map _ ?_)
      rw [List.append_assoc]
      exact (hpe.append_left ld)
    · have hq' : q ∈ ld ++ (l1 ++ p :: l2) := by simp at hq ⊢; rcases hq with h | h | h | h <;> simp [h]
      exact T.keep (h5 q hq') hkp
    · show (left (T.kl z) && !(T.kl z).sameKey (T.kl p.1.1)) = true ↔ _
      rw [MK.same, Bool.and_eq_true, h6 z]
      constructor
      · rintro ⟨⟨q, hq, rfl⟩, hne⟩
        have hne : ¬ q.1.1 = p.1.1 := by simpa using hne
        refine ⟨q, ?_, rfl⟩
        simp at hq ⊢
        rcases hq with h | rfl | h
        · exact .inl h
        · exact absurd rfl hne
        · exact .inr h
      · rintro ⟨q, hq, rfl⟩
        refine ⟨⟨q, by simp at hq ⊢; rcases hq with h | h <;> simp [h], rfl⟩, ?_⟩
        have hu2 : ((p :: (ld ++ (l1 ++ l2))).map fun p => p.1.1).Nodup := (((hpe.append_left ld).trans List.perm_middle).map _).nodup_iff.1 hu
        rw [List.map_cons, List.nodup_cons] at hu2
        have : ¬ q.1.1 = p.1.1 := fun e => hu2.1 (List.mem_map.2 ⟨q, by simp at hq ⊢; rcases hq with h | h <;> simp [h], e⟩)
        simp [this]
end
end Go.V
/- MT: keys that are a struct of two ints. No project text. -/
namespace Go.V
open Go.RowKit Go.Maps Go.ChangeShapes Go.WideShapes Go.ChangeMaps
/-- a pair of ints that an int holds -/
def K2 : Type := { p : Int × Int // (Lit.int .i64 p.1).wf = true ∧ (Lit.int .i64 p.2).wf = true }
instance : DecidableEq K2 := inferInstanceAs (DecidableEq { p : Int × Int // (Lit.int .i64 p.1).wf = true ∧ (Lit.int .i64 p.2).wf = true })
def K2.v (x : K2) : Value := .agg #[.int .i64 x.1.1, .int .i64 x.1.2]
def K2.l (x : K2) : Lit := .string (keyBytes [.int .i64 x.1.1, .int .i64 x.1.2])
theorem K2.vi {x y : K2} (h : x.v = y.v) : x = y := by
  unfold K2.v at h
  obtain ⟨⟨a, b⟩, _⟩ := x
  obtain ⟨⟨c, d⟩, _⟩ := y
  simp at h
  obtain ⟨rfl, rfl⟩ := h
  rfl
/-- k is a struct of two ints -/
structure TwoInts (P : Program) (k : TypeId) : Prop where
  fs : ∃ f g, P.underlying k = some (.struct #[f, g]) ∧ f.offset = 0 ∧ g.offset = 1 ∧ (f.name != "_") = true ∧ (g.name != "_") = true ∧
    P.underlying f.type = some (.int .i64) ∧ P.underlying g.type = some (.int .i64) ∧ P.cellsOf f.type = 1 ∧ P.cellsOf g.type = 1
  kt : P.keyType k = true
  two : P.cellsOf k = 2
  row : k < P.types.size
  laid : laidOutB P = true
  deep : P.keyTypeAt 2 k = true
variable {P : Program} {k : TypeId}
theorem TwoInts.law (h : TwoInts P k) : Keyed P k := by
  obtain ⟨f, g, h1, _⟩ := h.fs
  exact Keyed.of_law (deep_law_laid h.laid (m := 2) (by omega) h.row h.deep (by rw [h1]))
theorem TwoInts.ko (h : TwoInts P k) (x : K2) : keyOf P k x.v = some x.l := by
  obtain ⟨f, g, h1, h2, h3, h4, h5, h6, h7, h8, h9⟩ := h.fs
  obtain ⟨n, hn⟩ : ∃ n, P.types.size = n + 1 := Nat.exists_eq_succ_of_ne_zero (fun e => absurd h.row (by rw [e]; exact Nat.not_lt_zero _))
  obtain ⟨⟨a, b⟩, ha, hb⟩ := x
  dsimp only at ha hb
  unfold keyOf
  rw [h1]
  dsimp only
  rw [h.kt, hn]
  simp [K2.v, K2.l, Value.formed, h1, h.two, Value.cells, Program.keyLits, h2, h3, h6, h7, h8, h9, ha, hb]
  exact ⟨by simpa using h4, by simpa using h5⟩
theorem TwoInts.inv (h : TwoInts P k) {v : Value} {l : Lit} (hv : keyOf P k v = some l) : ∃ x : K2, v = x.v := by
  obtain ⟨f, g, h1, h2, h3, h4, h5, h6, h7, h8, h9⟩ := h.fs
  obtain ⟨n, hn⟩ : ∃ n, P.types.size = n + 1 := Nat.exists_eq_succ_of_ne_zero (fun e => absurd h.row (by rw [e]; exact Nat.not_lt_zero _))
  unfold keyOf at hv
  rw [h1] at hv
  dsimp only at hv
  rw [h.kt, hn, Bool.true_and] at hv
  split at hv
  · rename_i hf
    cases v <;> simp [Value.formed, h1] at hf
    rename_i cs
    obtain ⟨cs⟩ := cs
    rw [h.two] at hf
    match cs, hf with
    | [c, d], _ =>
      simp [Value.cells, Program.keyLits, h1, h.two, h2, h3, h6, h7, h8, h9] at hv
      cases c <;> simp at hv
      obtain ⟨ls, ⟨_, hq⟩, _⟩ := hv
      rw [Option.bind_eq_some_iff] at hq
      obtain ⟨u, hu, hq⟩ := hq
      cases d <;> simp at hq
      split at hu
      · rename_i e1
        obtain ⟨rfl, ha⟩ := e1
        rw [Option.bind_eq_some_iff] at hq
        obtain ⟨u2, hu2, _⟩ := hq
        rw [Option.bind_eq_some_iff] at hu2
        obtain ⟨u3, hu3, _⟩ := hu2
        split at hu3
        · rename_i e2
          obtain ⟨rfl, hb⟩ := e2
          exact ⟨⟨(_, _), ha, hb⟩, rfl⟩
        · cases hu3
      · cases hu
  · cases hv
/-- maps by such keys -/
def TwoInts.mk' (h : TwoInts P k) {β : Type} (V : World → (Nat → Prop) → Value → β → Prop)
    (keep : ∀ {w w' : World} {F F' : Nat → Prop} {v : Value} {d : β}, V w F v d → (∀ x, x < w.heap.size → F x → F' x ∧ w'.heap[x]? = w.heap[x]?) → V w' F' v d) : MK P k K2 β :=
  ⟨K2.v, K2.l, V, h.law, h.ko, h.inv, K2.vi, keep⟩
/-- a key's cells -/
def K2.cs (x : K2) : List Value := [.int .i64 x.1.1, .int .i64 x.1.2]
instance : Inhabited K2 := ⟨⟨(0, 0), by decide, by decide⟩⟩
end Go.V
