/- MT: several texts in one (MP MS MT). -/
import Derived.Test.YtnpgloeldoiekaaD0
import Derived.Maps.RangeWalk
import Derived.Maps.OwnSet
import Derived.DeepKeys4
/- MP: maps from names to bytes: a block that is a map, told by a list of files. No project text. -/
namespace Go.V
open Go.RowKit Go.Maps Go.ChangeShapes Go.WideShapes Go.ChangeMaps
def mkl (s : ByteArray) : Lit := .string s.data.toList
theorem mkl_inj {s t : ByteArray} (h : mkl s = mkl t) : s = t := by
  unfold mkl at h
  injection h with h
  have : s.data = t.data := Array.toList_inj.1 h
  cases s; cases t; cases this; rfl
theorem mkl_key (s : ByteArray) : WideAt.IsKeyLit (mkl s) := by unfold mkl; simp [WideAt.IsKeyLit]
theorem mkl_same (s t : ByteArray) : (mkl s).sameKey (mkl t) = decide (s = t) := by
  by_cases h : s = t
  · subst h; rw [decide_eq_true rfl]; exact WideAt.sameKey_self (mkl_key s)
  · rw [decide_eq_false h]
    cases hs : (mkl s).sameKey (mkl t) with
    | false => rfl
    | true => exact absurd (mkl_inj (WideAt.sameKey_eq hs)) h
/-- how an element that is a slice reads: as itself -/
def heldR (v : Value) : Option (DataW Value × List MemPlace) := match v with
  | .slice _ _ _ => some (.held v, [])
  | _ => none
theorem heldR_inv {v : Value} {d : DataW Value} {ps : List MemPlace} (h : heldR v = some (d, ps)) : (∃ A n c, v = .slice A n c) ∧ d = .held v := by
  unfold heldR at h
  cases v <;> simp at h
  obtain ⟨rfl, _⟩ := h
  exact ⟨⟨_, _, _, rfl⟩, rfl⟩
def entF (p : Fl × Value) : Lit × DataW Value := (mkl p.1.n, .held p.2)
/-- block b is a map that holds the files of L -/
def FMs (P : Program) (k : TypeId) (w : World) (F : Nat → Prop) (b : Nat) (L : List Fl) : Prop :=
  ∃ (l : List (Fl × Value)) (es : List (Lit × DataW Value)), l.map (·.1) = L ∧ w.ownsMap P k heldR b l.length (.map es) ∧ es.Perm (l.map entF) ∧ ∀ p ∈ l, Rd w F p.2 (bys p.1.b) ∧ p.1.n.size ≤ maxLen
theorem own_tight {P : Program} {k : TypeId} {R : Value → Option (DataW Value × List MemPlace)} {w : World} {b n : Nat} {D : DataW Value} (h : w.ownsMap P k R b n D) : w.ownsMap P k R b (Maps.size D) D := by
  obtain ⟨es, clock, hb, Fh, _, rfl⟩ := h
  exact ⟨es, clock, hb, Fh, by simp [Maps.size, length_sorted], rfl⟩
theorem perm_lift {α β : Type} {f : α → β} {L L' : List β} (h : L.Perm L') : ∀ l : List α, l.map f = L → ∃ l' : List α, l'.map f = L' ∧ l.Perm l' := by
  induction h with
  | nil => exact fun l h => ⟨l, h, .refl _⟩
  | cons x _ ih =>
    intro l h
    match l, h with
    | a :: r, h =>
      rw [List.map_cons] at h
      injection h with h1 h2
      obtain ⟨r', h3, h4⟩ := ih r h2
      exact ⟨a :: r', by rw [List.map_cons, h1, h3], h4.cons a⟩
  | swap x y r =>
    intro l h
    match l, h with
    | a :: c :: t, h =>
      rw [List.map_cons, List.map_cons] at h
      injection h with h1 h2
      injection h2 with h2 h3
      exact ⟨c :: a :: t, by rw [List.map_cons, List.map_cons, h1, h2, h3], .swap _ _ _⟩
  | trans _ _ ih1 ih2 =>
    intro l h
    obtain ⟨l1, h1, h2⟩ := ih1 l h
    obtain ⟨l2, h3, h4⟩ := ih2 l1 h1
    exact ⟨l2, h3, h2.trans h4⟩
variable {P : Program} {k : TypeId} {w : World} {F : Nat → Prop} {b : Nat} {L : List Fl}
theorem FMs.lt (h : FMs P k w F b L) : b < w.heap.size := by
  obtain ⟨l, es, _, ho, _⟩ := h
  exact ho.lt
theorem FMs.keep {w' : World} {F' : Nat → Prop} (h : FMs P k w F b L) (hb : w'.heap[b]? = w.heap[b]?) (hF : ∀ x, x < w.heap.size → F x → F' x ∧ w'.heap[x]? = w.heap[x]?) : FMs P k w' F' b L := by
  obtain ⟨l, es, h1, ⟨es0, clock, h2, h3⟩, h4, h5⟩ := h
  exact ⟨l, es, h1, ⟨es0, clock, hb.trans h2, h3⟩, h4, fun p hp => ⟨(h5 p hp).1.keep hF, (h5 p hp).2⟩⟩
theorem FMs.below {w' : World} (h : FMs P k w F b L) (hB : Below w.heap.size w w') : FMs P k w' F b L :=
  h.keep (hB.block b h.lt) (fun x hx hF => ⟨hF, hB.block x hx⟩)
theorem FMs.weak {F' : Nat → Prop} (h : FMs P k w F b L) (hF : ∀ x, x < w.heap.size → F x → F' x) : FMs P k w F' b L :=
  h.keep rfl (fun x hx h => ⟨hF x hx h, rfl⟩)
theorem FMs.name (h : FMs P k w F b L) : ∀ f ∈ L, f.n.size ≤ maxLen := by
  obtain ⟨l, es, rfl, _, _, h5⟩ := h
  intro f hf
  obtain ⟨p, hp, rfl⟩ := List.mem_map.1 hf
  exact (h5 p hp).2
theorem ents_uq (K : Keyed P k) {n : Nat} {l : List (Fl × Value)} {es : List (Lit × DataW Value)} (ho : w.ownsMap P k heldR b n (.map es)) (hp : es.Perm (l.map entF)) : (l.map fun p => p.1.n).Nodup := by
  obtain ⟨es', he, h2, _⟩ := ho.entries K
  cases he
  have h3 := (hp.pairwise_iff (fun {a b} (h : a.1 ≠ b.1) => h.symm)).1 h2
  rw [List.pairwise_map] at h3
  rw [List.Nodup, List.pairwise_map]
  exact h3.imp (fun h e => h (by unfold entF; rw [e]))
theorem FMs.uq (K : Keyed P k) (h : FMs P k w F b L) : (L.map Fl.n).Nodup := by
  obtain ⟨l, es, rfl, ho, hp, _⟩ := h
  have := ents_uq K ho hp
  rwa [List.map_map]
theorem FMs.perm {L' : List Fl} (h : FMs P k w F b L) (hL : L.Perm L') : FMs P k w F b L' := by
  obtain ⟨l, es, rfl, ho, hp, h5⟩ := h
  obtain ⟨l', h1, h2⟩ : ∃ l' : List (Fl × Value), l'.map (·.1) = L' ∧ l.Perm l' := perm_lift hL l rfl
  exact ⟨l', es, h1, by rw [← h2.length_eq]; exact ho, hp.trans (h2.map _), fun p hp => h5 p (h2.mem_iff.2 hp)⟩
theorem FMs.made : FMs P k (w.alloc (.map #[] 0)) F w.heap.size [] :=
  ⟨[], [], rfl, World.ownsMap_made _ _ _ _, .refl _, fun p hp => by cases hp⟩
theorem any_find {α : Type} (f : α → Bool) : ∀ l : List α, l.any f = (l.find? f).isSome
  | [] => rfl
  | x :: l => by
    rw [List.any_cons, List.find?_cons]
    cases h : f x
    · rw [Bool.false_or]; exact any_find f l
    · rfl
/-- what is found at a name -/
theorem ent_find (s : ByteArray) : ∀ (l : List (Fl × Value)), ((l.map entF).find? fun q => q.1.sameKey (mkl s)) = (l.find? fun p => decide (p.1.n = s)).map entF
  | [] => rfl
  | p :: l => by
    rw [List.map_cons, List.find?_cons, List.find?_cons]
    have : (entF p).1.sameKey (mkl s) = decide (p.1.n = s) := mkl_same _ _
    rw [this]
    by_cases h : p.1.n = s
    · rw [decide_eq_true h]; rfl
    · rw [decide_eq_false h]; exact ent_find s l
theorem find_perm {α : Type} {f : α → Bool} {l l' : List α} (h : l.Perm l') (hu : l.Pairwise fun x y => ¬ (f x = true ∧ f y = true)) : l.find? f = l'.find? f := by
  induction h with
  | nil => rfl
  | cons x _ ih =>
    rw [List.find?_cons, List.find?_cons]
    rw [List.pairwise_cons] at hu
    rw [ih hu.2]
  | swap x y l =>
    rw [List.find?_cons, List.find?_cons, List.find?_cons, List.find?_cons]
    rw [List.pairwise_cons] at hu
    have := hu.1 x (by simp)
    cases hx : f x <;> cases hy : f y <;> simp_all
  | trans h1 _ ih1 ih2 =>
    rw [ih1 hu, ih2 ((h1.pairwise_iff (fun {a b} h => fun e => h ⟨e.2, e.1⟩)).1 hu)]
theorem fl_find (s : ByteArray) : ∀ (l : List (Fl × Value)), findF (l.map (·.1)) s = (l.find? fun p => decide (p.1.n = s)).map fun p => p.1.b
  | [] => rfl
  | p :: l => by
    rw [List.map_cons, findF, List.find?_cons]
    by_cases h : p.1.n = s
    · rw [if_pos h, decide_eq_true h]; rfl
    · rw [if_neg h, decide_eq_false h]; exact fl_find s l
theorem uq_pair {l : List (Fl × Value)} (h : (l.map fun p => p.1.n).Nodup) (s : ByteArray) : (l.map entF).Pairwise fun x y => ¬ (x.1.sameKey (mkl s) = true ∧ y.1.sameKey (mkl s) = true) := by
  rw [List.Nodup, List.pairwise_map] at h
  rw [List.pairwise_map]
  refine h.imp (fun {p q} hne hh => hne ?_)
  have h1 : decide (p.1.n = s) = true := by rw [← mkl_same]; exact hh.1
  have h2 : decide (q.1.n = s) = true := by rw [← mkl_same]; exact hh.2
  rw [of_decide_eq_true h1, of_decide_eq_true h2]
/-- the slice at a name -/
theorem FMs.find (K : Keyed P k) (h : FMs P k w F b L) (s : ByteArray) : ∃ (l : List (Fl × Value)) (es : List (Lit × DataW Value)), w.ownsMap P k heldR b l.length (.map es) ∧
    ((findF L s = none ∧ Maps.has (.map es) (mkl s) = false ∧ ∀ z : DataW Value, (DataW.map es).atKey (mkl s) z = z) ∨
     ∃ c v, findF L s = some c ∧ Rd w F v (bys c) ∧ Maps.has (.map es) (mkl s) = true ∧ ∀ z : DataW Value, (DataW.map es).atKey (mkl s) z = .held v) := by
  obtain ⟨l, es, rfl, ho, hp, h5⟩ := h
  refine ⟨l, es, ho, ?_⟩
  have hu := ents_uq K ho hp
  have hf : (es.find? fun q => q.1.sameKey (mkl s)) = (l.find? fun p => decide (p.1.n = s)).map entF := by
    rw [← ent_find]
    exact find_perm hp ((hp.pairwise_iff (fun {a b} h => fun e => h ⟨e.2, e.1⟩)).2 (uq_pair hu s))
  have hat : ∀ z : DataW Value, (DataW.map es).atKey (mkl s) z = match (l.find? fun p => decide (p.1.n = s)) with | some p => .held p.2 | none => z := fun z => by
    unfold DataW.atKey
    dsimp only
    rw [hf]
    cases l.find? fun p => decide (p.1.n = s) <;> rfl
  have hha : Maps.has (.map es) (mkl s) = (l.find? fun p => decide (p.1.n = s)).isSome := by
    rw [Maps.has_eq, any_find, hf]
    cases l.find? fun p => decide (p.1.n = s) <;> rfl
  rw [fl_find]
  cases hq : l.find? fun p => decide (p.1.n = s) with
  | none =>
    rw [hq] at hha
    exact .inl ⟨rfl, hha, fun z => by rw [hat, hq]⟩
  | some p =>
    rw [hq] at hha
    exact .inr ⟨p.1.b, p.2, rfl, (h5 p (List.mem_of_find?_eq_some hq)).1, hha, fun z => by rw [hat, hq]⟩
section
variable {ops : Array Oper} {rest : List Oper} {o : Oper} {a : Act} {Q : Exit → Act → World → Prop}
/-- 'v, ok := m[s]' -/
theorem wp_lookF (t e : TypeId) (m x : Operand) (hgd : o.guard = none) (ho : o.op = .lookup t m x true) (hk : P.underlying k = some .string) (ht : P.underlying t = some (.map k e)) (hz : (zeroValue e).run P w = .ok (.slice none 0 0) w)
    (hm : a.eval m = .map (some b)) (h : FMs P k w F b L) {s : ByteArray} (hx : a.eval x = .string s) (hs : s.size ≤ maxLen)
    (hK : ∀ A c, Rd w F (.slice A ((findF L s).getD []).length c) (bys ((findF L s).getD [])) → wpList P ops Q rest (a.put o.dst (.tuple #[.slice A ((findF L s).getD []).length c, .bool (findF L s).isSome])) w) : wpList P ops Q (o :: rest) a w := by
  have K := string_keyed hk
  obtain ⟨l, es, hown, hf⟩ := h.find K s
  refine wpList_lookup_own_ok w hgd m x t ho k e K ht heldR hz (.held (.slice none 0 0)) [] rfl b l.length (.map es) hm hown (.string s) (mkl s) hx (WideMaps.keyOf_string_mk hk hs) (fun v ps hv => ?_)
  obtain ⟨-, hd⟩ := heldR_inv hv
  rcases hf with ⟨h1, h2, h3⟩ | ⟨c, u, h1, h2, h3, h4⟩
  · rw [h3] at hd
    injection hd with hd
    subst hd
    rw [h2]
    rw [h1] at hK
    exact hK none 0 (Rd.nil _ _)
  · rw [h4] at hd
    injection hd with hd
    subst hd
    rw [h3]
    rw [h1] at hK
    obtain ⟨A, cc, rfl⟩ := h2.shape
    exact hK A cc h2
/-- 'm[s]' -/
theorem wp_look1F (t e : TypeId) (m x : Operand) (hgd : o.guard = none) (ho : o.op = .lookup t m x false) (hk : P.underlying k = some .string) (ht : P.underlying t = some (.map k e)) (hz : (zeroValue e).run P w = .ok (.slice none 0 0) w)
    (hm : a.eval m = .map (some b)) (h : FMs P k w F b L) {s : ByteArray} (hx : a.eval x = .string s) (hs : s.size ≤ maxLen)
    (hK : ∀ A c, Rd w F (.slice A ((findF L s).getD []).length c) (bys ((findF L s).getD [])) → wpList P ops Q rest (a.put o.dst (.slice A ((findF L s).getD []).length c)) w) : wpList P ops Q (o :: rest) a w := by
  have K := string_keyed hk
  obtain ⟨l, es, hown, hf⟩ := h.find K s
  refine wpList_plain hgd fun K' hK' => ?_
  obtain ⟨v, ps, hrun, hv⟩ := hown.lookup K ht hz (zd := .held (.slice none 0 0)) (zp := []) rfl (WideMaps.keyOf_string_mk hk hs)
  unfold Oper.wp
  simp [execOp, ho, hm, hx, hrun, Result.andThen]
  refine hK' _ _ ?_
  obtain ⟨-, hd⟩ := heldR_inv hv
  rcases hf with ⟨h1, h2, h3⟩ | ⟨c, u, h1, h2, h3, h4⟩
  · have h3 := h3 (.held (.slice none 0 0))
    unfold mkl at h3
    rw [h3] at hd
    injection hd with hd
    subst hd
    rw [h1] at hK
    exact hK none 0 (Rd.nil _ _)
  · have h4 := h4 (.held (.slice none 0 0))
    unfold mkl at h4
    rw [h4] at hd
    injection hd with hd
    subst hd
    rw [h1] at hK
    obtain ⟨A, cc, rfl⟩ := h2.shape
    exact hK A cc h2
/-- 'len(m)' -/
theorem wp_lenF (t e : TypeId) (m : Operand) (hgd : o.guard = none) (ho : o.op = .call { callee := .builtin .len, args := #[m], argTypes := #[t] }) (ht : P.underlying t = some (.map k e))
    (hm : a.eval m = .map (some b)) (h : FMs P k w F b L) (hK : wpList P ops Q rest (a.put o.dst (.int .i64 (L.length : Int))) w) : wpList P ops Q (o :: rest) a w := by
  obtain ⟨l, es, rfl, hown, hp, _⟩ := h
  refine wpList_len_own w hgd m t ho k e ht heldR b l.length (.map es) hm hown ?_
  have e1 : Maps.size (DataW.map es) = (l.map (·.1)).length := by rw [Maps.size_eq, hp.length_eq]; simp
  rw [e1]
  exact hK
end
theorem woF_map (l : List (Fl × Value)) (s : ByteArray) : woF (l.map (·.1)) s = (l.filter fun p => decide (p.1.n ≠ s)).map (·.1) := by
  unfold woF
  rw [List.filter_map]
  rfl
theorem ent_filter (s : ByteArray) (l : List (Fl × Value)) : (l.map entF).filter (fun q => !q.1.sameKey (mkl s)) = (l.filter fun p => decide (p.1.n ≠ s)).map entF := by
  rw [List.filter_map]
  congr 1
  refine List.filter_congr (fun p _ => ?_)
  show (!(mkl p.1.n).sameKey (mkl s)) = _
  rw [mkl_same]
  by_cases h : p.1.n = s <;> simp [h]
/-- the datum behind a store -/
theorem FMs.put_of {w' : World} {F' : Nat → Prop} {n : Nat} {l : List (Fl × Value)} {es : List (Lit × DataW Value)} {s : ByteArray} {bs : List UInt8} {v : Value} (h1 : l.map (·.1) = L) (hp : es.Perm (l.map entF)) (h5 : ∀ p ∈ l, Rd w' F' p.2 (bys p.1.b) ∧ p.1.n.size ≤ maxLen)
    (hs : s.size ≤ maxLen) (hv : Rd w' F' v (bys bs)) (ho : w'.ownsMap P k heldR b n ((DataW.map es).put (mkl s) (.held v))) : FMs P k w' F' b (⟨s, bs⟩ :: woF L s) := by
  subst h1
  have hpp : (DataW.insert (mkl s, DataW.held v) (es.filter fun p => !p.1.sameKey (mkl s))).Perm (((⟨s, bs⟩, v) :: l.filter fun p => decide (p.1.n ≠ s)).map entF) := by
    refine (insert_perm _ _).trans ?_
    rw [List.map_cons, ← ent_filter]
    exact (hp.filter _).cons _
  refine ⟨(⟨s, bs⟩, v) :: l.filter fun p => decide (p.1.n ≠ s), _, by rw [List.map_cons, woF_map], ?_, hpp, fun p hp => ?_⟩
  · have := own_tight ho
    have e1 : Maps.size ((DataW.map es).put (mkl s) (.held v)) = ((⟨s, bs⟩, v) :: l.filter fun p => decide (p.1.n ≠ s)).length := by
      show (DataW.insert (mkl s, DataW.held v) (es.filter fun p => !p.1.sameKey (mkl s))).length = _
      rw [hpp.length_eq, List.length_map]
    rw [e1] at this
    exact this
  · rcases List.mem_cons.1 hp with rfl | hp
    · exact ⟨hv, hs⟩
    · exact h5 p (List.mem_filter.1 hp).1
theorem FMs.del_of {w' : World} {F' : Nat → Prop} {n : Nat} {l : List (Fl × Value)} {es : List (Lit × DataW Value)} {s : ByteArray} (h1 : l.map (·.1) = L) (hp : es.Perm (l.map entF)) (h5 : ∀ p ∈ l, Rd w' F' p.2 (bys p.1.b) ∧ p.1.n.size ≤ maxLen)
    (ho : w'.ownsMap P k heldR b n ((DataW.map es).del (mkl s))) : FMs P k w' F' b (woF L s) := by
  subst h1
  have hpp : (es.filter fun p => !p.1.sameKey (mkl s)).Perm ((l.filter fun p => decide (p.1.n ≠ s)).map entF) := by
    rw [← ent_filter]
    exact hp.filter _
  refine ⟨l.filter fun p => decide (p.1.n ≠ s), _, (woF_map l s).symm, ?_, hpp, fun p hp => h5 p (List.mem_filter.1 hp).1⟩
  have := own_tight ho
  have e1 : Maps.size ((DataW.map es).del (mkl s)) = (l.filter fun p => decide (p.1.n ≠ s)).length := by
    show (es.filter fun p => !p.1.sameKey (mkl s)).length = _
    rw [hpp.length_eq, List.length_map]
  rw [e1] at this
  exact this
section
variable {ops : Array Oper} {rest : List Oper} {o : Oper} {a : Act} {Q : Exit → Act → World → Prop}
/-- 'm[s] = v' -/
theorem wp_putF (t e : TypeId) (m x y : Operand) (hgd : o.guard = none) (ho : o.op = .mapUpdate t m x y) (hk : P.underlying k = some .string) (ht : P.underlying t = some (.map k e))
    (hm : a.eval m = .map (some b)) (h : FMs P k w F b L) (hL : L.length < maxLen) {s : ByteArray} (hx : a.eval x = .string s) (hs : s.size ≤ maxLen) {A : Option Addr} {n c : Nat} (hy : a.eval y = .slice A n c) {bs : List UInt8} (hv : Rd w F (.slice A n c) (bys bs)) (hF : ¬ F b)
    (hK : ∀ w', FMs P k w' F b (⟨s, bs⟩ :: woF L s) → w.grownBy w' (some b) → w.heap.size = w'.heap.size → wpList P ops Q rest (a.put o.dst undef) w') : wpList P ops Q (o :: rest) a w := by
  have K := string_keyed hk
  obtain ⟨l, es, h1, hown, hp, h5⟩ := h
  have hl : l.length < maxLen := by rw [← h1] at hL; simpa using hL
  refine wpList_mapUpdate_in w hgd m x y t ho k e K ht heldR b l.length (.map es) hm hown hl (.string s) (.slice A n c) (mkl s) hx hy (WideMaps.keyOf_string_mk hk hs) (.held (.slice A n c)) [] rfl (fun w' ho' ht' => ?_)
  have hg := ht'.grown
  have hkp : ∀ x, x < w.heap.size → F x → F x ∧ w'.heap[x]? = w.heap[x]? := fun x hx hf => ⟨hf, hg.block x hx (fun e => by injection e with e; subst e; exact hF hf)⟩
  refine hK w' (FMs.put_of h1 hp (fun p hp => ⟨(h5 p hp).1.keep hkp, (h5 p hp).2⟩) hs (hv.keep hkp) ho') hg ?_
  obtain ⟨es1, clock, es2, clock2, _, rfl⟩ := ht'
  simp [ChangeMaps.setBlock]
/-- 'delete(m, s)' -/
theorem wp_delF (t e : TypeId) (m x : Operand) (hgd : o.guard = none) (ho : o.op = .call { callee := .builtin .delete, args := #[m, x], argTypes := #[t, k] }) (hk : P.underlying k = some .string) (ht : P.underlying t = some (.map k e))
    (hm : a.eval m = .map (some b)) (h : FMs P k w F b L) {s : ByteArray} (hx : a.eval x = .string s) (hs : s.size ≤ maxLen) (hF : ¬ F b)
    (hK : ∀ w', FMs P k w' F b (woF L s) → w.grownBy w' (some b) → w.heap.size = w'.heap.size → wpList P ops Q rest (a.put o.dst (.tuple #[])) w') : wpList P ops Q (o :: rest) a w := by
  have K := string_keyed hk
  obtain ⟨l, es, h1, hown, hp, h5⟩ := h
  refine wpList_delete_own w hgd m x t k ho e K ht heldR b l.length (.map es) hm hown (.string s) (mkl s) hx (WideMaps.keyOf_string_mk hk hs) (fun w' ho' ht' => ?_)
  have hg := ht'.grown
  have hkp : ∀ x, x < w.heap.size → F x → F x ∧ w'.heap[x]? = w.heap[x]? := fun x hx hf => ⟨hf, hg.block x hx (fun e => by injection e with e; subst e; exact hF hf)⟩
  refine hK w' (FMs.del_of h1 hp (fun p hp => ⟨(h5 p hp).1.keep hkp, (h5 p hp).2⟩) ho') hg ?_
  obtain ⟨es1, clock, es2, clock2, _, rfl⟩ := ht'
  simp [ChangeMaps.setBlock]
end
/-- a range over the map, by iterator r: dn have come, rs are still to come -/
def FRs (P : Program) (k : TypeId) (w : World) (F : Nat → Prop) (b r : Nat) (dn rs : List Fl) : Prop :=
  ∃ (ld lr : List (Fl × Value)) (es : List (Lit × DataW Value)) (left : Lit → Bool) (cnt : Nat), ld.map (·.1) = dn ∧ lr.map (·.1) = rs ∧ w.ranges P k heldR b r (ld ++ lr).length (.map es) left cnt ∧ es.Perm ((ld ++ lr).map entF) ∧
    (∀ p ∈ ld ++ lr, Rd w F p.2 (bys p.1.b) ∧ p.1.n.size ≤ maxLen) ∧ ∀ s, left (mkl s) = true ↔ ∃ p ∈ lr, p.1.n = s
theorem FRs.owns {r : Nat} {dn rs : List Fl} (h : FRs P k w F b r dn rs) : FMs P k w F b (dn ++ rs) := by
  obtain ⟨ld, lr, es, left, cnt, rfl, rfl, h3, h4, h5, _⟩ := h
  exact ⟨ld ++ lr, es, by rw [List.map_append], h3.owns, h4, h5⟩
theorem FRs.keep {w' : World} {F' : Nat → Prop} {r : Nat} {dn rs : List Fl} (h : FRs P k w F b r dn rs) (hb : w'.heap[b]? = w.heap[b]?) (hr : w'.heap[r]? = w.heap[r]?) (hF : ∀ x, x < w.heap.size → F x → F' x ∧ w'.heap[x]? = w.heap[x]?) : FRs P k w' F' b r dn rs ∧ w'.rangeLeft b r = w.rangeLeft b r := by
  obtain ⟨ld, lr, es, left, cnt, h1, h2, ⟨es0, clock, since, seen, c0, q1, q2, q3, q4, q5, q6⟩, h4, h5, h6⟩ := h
  exact ⟨⟨ld, lr, es, left, cnt, h1, h2, ⟨es0, clock, since, seen, c0, hb.trans q1, q2, q3, q4, hr.trans q5, q6⟩, h4, fun p hp => ⟨(h5 p hp).1.keep hF, (h5 p hp).2⟩, h6⟩, by unfold World.rangeLeft; rw [hb, hr]⟩
section
variable {ops : Array Oper} {rest : List Oper} {o : Oper} {a : Act} {Q : Exit → Act → World → Prop}
/-- 'range m' -/
theorem wp_rangeF (t e : TypeId) (m : Operand) (hgd : o.guard = none) (ho : o.op = .range t m) (hk : P.underlying k = some .string) (ht : P.underlying t = some (.map k e)) (hm : a.eval m = .map (some b)) (h : FMs P k w F b L)
    (hK : ∀ w', FRs P k w' F b w.heap.size [] L → w.grownBy w' none → w'.heap.size = w.heap.size + 1 → wpList P ops Q rest (a.put o.dst (.pointer (some ⟨w.heap.size, 0, none⟩))) w') : wpList P ops Q (o :: rest) a w := by
  have K := string_keyed hk
  obtain ⟨l, es, rfl, hown, hp, h5⟩ := h
  refine wpList_range_own w hgd m t ho k e K ht heldR b l.length (.map es) hm hown (fun w' hr hg hs => hK w' ?_ hg hs)
  have hkp : ∀ x, x < w.heap.size → F x → F x ∧ w'.heap[x]? = w.heap[x]? := fun x hx hf => ⟨hf, hg.block x hx (by simp)⟩
  refine ⟨[], l, es, _, _, rfl, rfl, hr, by rw [List.nil_append]; exact hp, fun p hp => ?_, fun s => ?_⟩
  · rw [List.nil_append] at hp
    exact ⟨(h5 p hp).1.keep hkp, (h5 p hp).2⟩
  · rw [Maps.has_eq, List.any_eq_true]
    constructor
    · rintro ⟨q, hq, hs⟩
      obtain ⟨p, hp', rfl⟩ := List.mem_map.1 (hp.mem_iff.1 hq)
      have : decide (p.1.n = s) = true := by rw [← mkl_same]; exact hs
      exact ⟨p, hp', of_decide_eq_true this⟩
    · rintro ⟨p, hp', rfl⟩
      exact ⟨entF p, hp.mem_iff.2 (List.mem_map.2 ⟨p, hp', rfl⟩), WideAt.sameKey_self (mkl_key _)⟩
/-- the step -/
theorem wp_nextF (it : Operand) (hgd : o.guard = none) (ho : o.op = .next it false) (hk : P.underlying k = some .string) {r : Nat} {dn rs : List Fl} (hit : a.eval it = .pointer (some ⟨r, 0, none⟩)) (h : FRs P k w F b r dn rs) (hF : ¬ F r)
    (hDone : rs = [] → wpList P ops Q rest (a.put o.dst (.tuple #[.bool false])) w)
    (hMore : ∀ f rs' A c w', rs.Perm (f :: rs') → FRs P k w' F b r (dn ++ [f]) rs' → Rd w' F (.slice A f.b.length c) (bys f.b) → w'.rangeLeft b r < w.rangeLeft b r → w.grownBy w' (some r) → w'.heap.size = w.heap.size →
      (Instr.entry (.pointer (some ⟨r, 0, none⟩))).run P w' = .ok (.tuple #[.string f.n, .slice A f.b.length c]) w' → wpList P ops Q rest (a.put o.dst (.tuple #[.bool true, .string f.n, .slice A f.b.length c])) w') : wpList P ops Q (o :: rest) a w := by
  have K := string_keyed hk
  obtain ⟨ld, lr, es, left, cnt, rfl, rfl, hrg, hp, h5, h6⟩ := h
  refine wpList_plain hgd fun K' hK' => ?_
  unfold Oper.wp
  rcases hrg.next K o.type with ⟨h0, hl, hrun⟩ | ⟨key, v, kl, y, w', cnt', hkey, hlk, hv, hat, hrun, hrg', hlt, hgr, hsz, hen⟩
  · simp [execOp, ho, hit, hrun, Result.andThen]
    refine hK' _ _ (hDone ?_)
    match lr, h6 with
    | [], _ => rfl
    | p :: lr, h6 =>
      have := (h6 p.1.n).2 ⟨p, by simp, rfl⟩
      rw [hl] at this
      cases this
  · obtain ⟨s, rfl, rfl, hs⟩ : ∃ s : ByteArray, key = .string s ∧ kl = mkl s ∧ s.size ≤ maxLen := by
      cases key <;> simp [keyOf, hk, mapKey] at hkey
      obtain ⟨h1, rfl⟩ := hkey
      exact ⟨_, rfl, rfl, h1⟩
    obtain ⟨p, hpl, rfl⟩ := (h6 s).1 hlk
    have hu := ents_uq K hrg.owns hp
    obtain ⟨l1, l2, rfl⟩ := List.append_of_mem hpl
    have hpe : (l1 ++ p :: l2).Perm (p :: (l1 ++ l2)) := List.perm_middle
    have hpm : entF p ∈ es := hp.mem_iff.2 (List.mem_map.2 ⟨p, by simp, rfl⟩)
    have hy : y.1 = .held p.2 := by
      have hf : (es.find? fun q => q.1.sameKey (mkl p.1.n)) = some (entF p) := by
        have h1 := find_perm hp ((hp.pairwise_iff (fun {a b} h => fun e => h ⟨e.2, e.1⟩)).2 (uq_pair hu p.1.n))
        rw [h1]
        have h2 : ((ld ++ (l1 ++ p :: l2)).map entF).Perm ((p :: (ld ++ (l1 ++ l2))).map entF) := List.Perm.map _ ((hpe.append_left ld).trans List.perm_middle)
        rw [find_perm h2 (uq_pair hu p.1.n), List.map_cons, List.find?_cons]
        have : (entF p).1.sameKey (mkl p.1.n) = true := WideAt.sameKey_self (mkl_key _)
        rw [this]
      have h1 := hat (.held v)
      unfold DataW.atKey at h1
      dsimp only at h1
      rw [hf] at h1
      exact h1.symm
    obtain ⟨y1, y2⟩ := y
    obtain ⟨⟨A, n, c, rfl⟩, hd⟩ := heldR_inv hv
    dsimp only at hy
    rw [hy] at hd
    injection hd with hd
    have hrp := (h5 p (by simp)).1
    have hkp : ∀ x, x < w.heap.size → F x → F x ∧ w'.heap[x]? = w.heap[x]? := fun x hx hf => ⟨hf, hgr.block x hx (fun e => by injection e with e; subst e; exact hF hf)⟩
    have hrp' := hrp.keep hkp
    rw [hd] at hrp'
    obtain ⟨A', c', he⟩ := hrp'.shape
    injection he with e1 e2 e3
    subst e1 e2 e3
    simp [execOp, ho, hit, hrun, Result.andThen]
    have hml := hrg.left_eq
    have hml' := hrg'.left_eq
    refine hK' _ _ (hMore p.1 ((l1 ++ l2).map (·.1)) A c w' (hpe.map _) ⟨ld ++ [p], l1 ++ l2, es, fun z => left z && !z.sameKey (mkl p.1.n), cnt', by simp, rfl, ?_, ?_, fun q hq => ?_, fun z => ?_⟩ hrp' (by rw [hml, hml']; exact hlt) hgr hsz hen)
    · have e1 : (ld ++ (l1 ++ p :: l2)).length = (ld ++ [p] ++ (l1 ++ l2)).length := by simp; omega
      rw [← e1]
      exact hrg'
    · refine hp.trans (List.Perm.map _ ?_)
      rw [List.append_assoc]
      exact (hpe.append_left ld)
    · have hq' : q ∈ ld ++ (l1 ++ p :: l2) := by simp at hq ⊢; rcases hq with h | h | h | h <;> simp [h]
      exact ⟨(h5 q hq').1.keep hkp, (h5 q hq').2⟩
    · show (left (mkl z) && !(mkl z).sameKey (mkl p.1.n)) = true ↔ _
      rw [mkl_same, Bool.and_eq_true, h6 z]
      constructor
      · rintro ⟨⟨q, hq, rfl⟩, hne⟩
        have hne : ¬ q.1.n = p.1.n := by simpa using hne
        refine ⟨q, ?_, rfl⟩
        simp at hq ⊢
        rcases hq with h | rfl | h
        · exact .inl h
        · exact absurd rfl hne
        · exact .inr h
      · rintro ⟨q, hq, rfl⟩
        refine ⟨⟨q, by simp at hq ⊢; rcases hq with h | h <;> simp [h], rfl⟩, ?_⟩
        have hu2 : ((p :: (ld ++ (l1 ++ l2))).map fun p => p.1.n).Nodup := (((hpe.append_left ld).trans List.perm_middle).map _).nodup_iff.1 hu
        rw [List.map_cons, List.nodup_cons] at hu2
        have : ¬ q.1.n = p.1.n := fun e => hu2.1 (List.mem_map.2 ⟨q, by simp at hq ⊢; rcases hq with h | h <;> simp [h], e⟩)
        simp [this]
end
end Go.V
/- MS: maps by keys of any kind (structs among them) whose elements read by any relation: XMP's laws with a bundle in the place of names and bytes. No project text. -/
namespace Go.V
open Go.RowKit Go.Maps Go.ChangeShapes Go.WideShapes Go.ChangeMaps
/-- how keys stand in a map, and how its elements read -/
structure MK (P : Program) (k : TypeId) (κ β : Type) where
  kv : κ → Value
  kl : κ → Lit
  V : World → (Nat → Prop) → Value → β → Prop
  law : Keyed P k
  ko : ∀ x, keyOf P k (kv x) = some (kl x)
  inv : ∀ {v l}, keyOf P k v = some l → ∃ x, v = kv x
  kvi : ∀ {x y}, kv x = kv y → x = y
  keep : ∀ {w w' : World} {F F' : Nat → Prop} {v : Value} {d : β}, V w F v d → (∀ x, x < w.heap.size → F x → F' x ∧ w'.heap[x]? = w.heap[x]?) → V w' F' v d
variable {P : Program} {k : TypeId} {κ β : Type} [DecidableEq κ] {T : MK P k κ β}
omit [DecidableEq κ] in
theorem MK.inj {s t : κ} (h : T.kl s = T.kl t) : s = t := T.kvi (T.law.inj (T.ko s) (by rw [h]; exact T.ko t))
omit [DecidableEq κ] in
theorem MK.key (s : κ) : WideAt.IsKeyLit (T.kl s) := T.law.key (T.ko s)
theorem MK.same (s t : κ) : (T.kl s).sameKey (T.kl t) = decide (s = t) := by
  by_cases h : s = t
  · subst h; rw [decide_eq_true rfl]; exact WideAt.sameKey_self (MK.key s)
  · rw [decide_eq_false h]
    cases hs : (T.kl s).sameKey (T.kl t) with
    | false => rfl
    | true => exact absurd (MK.inj (WideAt.sameKey_eq hs)) h
/-- how an element reads: as itself -/
def heldA (v : Value) : Option (DataW Value × List MemPlace) := some (.held v, [])
theorem heldA_inv {v : Value} {d : DataW Value} {ps : List MemPlace} (h : heldA v = some (d, ps)) : d = .held v := by
  unfold heldA at h
  injection h with h
  injection h with h1 h2
  exact h1.symm
def entS (T : MK P k κ β) (p : (κ × β) × Value) : Lit × DataW Value := (T.kl p.1.1, .held p.2)
def findS (L : List (κ × β)) (s : κ) : Option β := (L.find? fun p => decide (p.1 = s)).map (·.2)
def woS (L : List (κ × β)) (s : κ) : List (κ × β) := L.filter fun p => decide (p.1 ≠ s)
theorem findS_none {s : κ} {L : List (κ × β)} (h : findS L s = none) : ∀ p ∈ L, p.1 ≠ s := by
  intro p hp e
  unfold findS at h
  rw [Option.map_eq_none_iff, List.find?_eq_none] at h
  exact h p hp (decide_eq_true e)
/-- block b is a map that holds L -/
def MS (T : MK P k κ β) (w : World) (F : Nat → Prop) (b : Nat) (L : List (κ × β)) : Prop :=
  ∃ (l : List ((κ × β) × Value)) (es : List (Lit × DataW Value)), l.map (·.1) = L ∧ w.ownsMap P k heldA b l.length (.map es) ∧ es.Perm (l.map (entS T)) ∧ ∀ p ∈ l, T.V w F p.2 p.1.2
variable {w : World} {F : Nat → Prop} {b : Nat} {L : List (κ × β)}
omit [DecidableEq κ] in
theorem MS.lt (h : MS T w F b L) : b < w.heap.size := by
  obtain ⟨l, es, _, ho, _⟩ := h
  exact ho.lt
omit [DecidableEq κ] in
theorem MS.keep {w' : World} {F' : Nat → Prop} (h : MS T w F b L) (hb : w'.heap[b]? = w.heap[b]?) (hF : ∀ x, x < w.heap.size → F x → F' x ∧ w'.heap[x]? = w.heap[x]?) : MS T w' F' b L := by
  obtain ⟨l, es, h1, ⟨es0, clock, h2, h3⟩, h4, h5⟩ := h
  exact ⟨l, es, h1, ⟨es0, clock, hb.trans h2, h3⟩, h4, fun p hp => T.keep (h5 p hp) hF⟩
omit [DecidableEq κ] in
theorem MS.below {w' : World} (h : MS T w F b L) (hB : Below w.heap.size w w') : MS T w' F b L :=
  h.keep (hB.block b h.lt) (fun x hx hF => ⟨hF, hB.block x hx⟩)
omit [DecidableEq κ] in
theorem MS.weak {F' : Nat → Prop} (h : MS T w F b L) (hF : ∀ x, x < w.heap.size → F x → F' x) : MS T w F' b L :=
  h.keep rfl (fun x hx h => ⟨hF x hx h, rfl⟩)
omit [DecidableEq κ] in
theorem entsS_uq {n : Nat} {l : List ((κ × β) × Value)} {es : List (Lit × DataW Value)} (ho : w.ownsMap P k heldA b n (.map es)) (hp : es.Perm (l.map (entS T))) : (l.map fun p => p.1.1).Nodup := by
  obtain ⟨es', he, h2, _⟩ := ho.entries T.law
  cases he
  have h3 := (hp.pairwise_iff (fun {a b} (h : a.1 ≠ b.1) => h.symm)).1 h2
  rw [List.pairwise_map] at h3
  rw [List.Nodup, List.pairwise_map]
  exact h3.imp (fun h e => h (by unfold entS; rw [e]))
omit [DecidableEq κ] in
theorem MS.uq (h : MS T w F b L) : (L.map (·.1)).Nodup := by
  obtain ⟨l, es, rfl, ho, hp, _⟩ := h
  have := entsS_uq ho hp
  rwa [List.map_map]
omit [DecidableEq κ] in
theorem MS.perm {L' : List (κ × β)} (h : MS T w F b L) (hL : L.Perm L') : MS T w F b L' := by
  obtain ⟨l, es, rfl, ho, hp, h5⟩ := h
  obtain ⟨l', h1, h2⟩ : ∃ l' : List ((κ × β) × Value), l'.map (·.1) = L' ∧ l.Perm l' := perm_lift hL l rfl
  exact ⟨l', es, h1, by rw [← h2.length_eq]; exact ho, hp.trans (h2.map _), fun p hp => h5 p (h2.mem_iff.2 hp)⟩
omit [DecidableEq κ] in
theorem MS.made : MS T (w.alloc (.map #[] 0)) F w.heap.size [] :=
  ⟨[], [], rfl, World.ownsMap_made _ _ _ _, .refl _, fun p hp => by cases hp⟩
/-- what is found at a key -/
theorem entS_find (s : κ) : ∀ (l : List ((κ × β) × Value)), ((l.map (entS T)).find? fun q => q.1.sameKey (T.kl s)) = (l.find? fun p => decide (p.1.1 = s)).map (entS T)
  | [] => rfl
  | p :: l => by
    rw [List.map_cons, List.find?_cons, List.find?_cons]
    have : (entS T p).1.sameKey (T.kl s) = decide (p.1.1 = s) := MK.same _ _
    rw [this]
    by_cases h : p.1.1 = s
    · rw [decide_eq_true h]; rfl
    · rw [decide_eq_false h]; exact entS_find s l
theorem findS_map (s : κ) (l : List ((κ × β) × Value)) : findS (l.map (·.1)) s = (l.find? fun p => decide (p.1.1 = s)).map fun p => p.1.2 := by
  unfold findS
  rw [List.find?_map]
  show ((l.find? fun p => decide (p.1.1 = s)).map (·.1)).map (·.2) = _
  cases l.find? fun p => decide (p.1.1 = s) <;> rfl
theorem uqS_pair {l : List ((κ × β) × Value)} (h : (l.map fun p => p.1.1).Nodup) (s : κ) : (l.map (entS T)).Pairwise fun x y => ¬ (x.1.sameKey (T.kl s) = true ∧ y.1.sameKey (T.kl s) = true) := by
  rw [List.Nodup, List.pairwise_map] at h
  rw [List.pairwise_map]
  refine h.imp (fun {p q} hne hh => hne ?_)
  have h1 : decide (p.1.1 = s) = true := by rw [← MK.same (T := T)]; exact hh.1
  have h2 : decide (q.1.1 = s) = true := by rw [← MK.same (T := T)]; exact hh.2
  rw [of_decide_eq_true h1, of_decide_eq_true h2]
/-- the element at a key -/
theorem MS.find (h : MS T w F b L) (s : κ) : ∃ (l : List ((κ × β) × Value)) (es : List (Lit × DataW Value)), w.ownsMap P k heldA b l.length (.map es) ∧
    ((findS L s = none ∧ Maps.has (.map es) (T.kl s) = false ∧ ∀ z : DataW Value, (DataW.map es).atKey (T.kl s) z = z) ∨
     ∃ c v, findS L s = some c ∧ T.V w F v c ∧ Maps.has (.map es) (T.kl s) = true ∧ ∀ z : DataW Value, (DataW.map es).atKey (T.kl s) z = .held v) := by
  obtain ⟨l, es, rfl, ho, hp, h5⟩ := h
  refine ⟨l, es, ho, ?_⟩
  have hu := entsS_uq ho hp
  have hf : (es.find? fun q => q.1.sameKey (T.kl s)) = (l.find? fun p => decide (p.1.1 = s)).map (entS T) := by
    rw [← entS_find]
    exact find_perm hp ((hp.pairwise_iff (fun {a b} h => fun e => h ⟨e.2, e.1⟩)).2 (uqS_pair hu s))
  have hat : ∀ z : DataW Value, (DataW.map es).atKey (T.kl s) z = match (l.find? fun p => decide (p.1.1 = s)) with | some p => .held p.2 | none => z := fun z => by
    unfold DataW.atKey
    dsimp only
    rw [hf]
    cases l.find? fun p => decide (p.1.1 = s) <;> rfl
  have hha : Maps.has (.map es) (T.kl s) = (l.find? fun p => decide (p.1.1 = s)).isSome := by
    rw [Maps.has_eq, any_find, hf]
    cases l.find? fun p => decide (p.1.1 = s) <;> rfl
  rw [findS_map]
  cases hq : l.find? fun p => decide (p.1.1 = s) with
  | none =>
    rw [hq] at hha
    exact .inl ⟨rfl, hha, fun z => by rw [hat, hq]⟩
  | some p =>
    rw [hq] at hha
    exact .inr ⟨p.1.2, p.2, rfl, h5 p (List.mem_of_find?_eq_some hq), hha, fun z => by rw [hat, hq]⟩
section
variable {ops : Array Oper} {rest : List Oper} {o : Oper} {a : Act} {Q : Exit → Act → World → Prop}
/-- 'v, ok := m[s]' -/
theorem wp_lookS (t e : TypeId) (m x : Operand) (hgd : o.guard = none) (ho : o.op = .lookup t m x true) (ht : P.underlying t = some (.map k e)) {z : Value} (hz : (zeroValue e).run P w = .ok z w)
    (hm : a.eval m = .map (some b)) (h : MS T w F b L) {s : κ} (hx : a.eval x = T.kv s)
    (hN : findS L s = none → wpList P ops Q rest (a.put o.dst (.tuple #[z, .bool false])) w)
    (hY : ∀ c v, findS L s = some c → T.V w F v c → wpList P ops Q rest (a.put o.dst (.tuple #[v, .bool true])) w) : wpList P ops Q (o :: rest) a w := by
  have K := T.law
  obtain ⟨l, es, hown, hf⟩ := h.find s
  refine wpList_lookup_own_ok w hgd m x t ho k e K ht heldA hz (.held z) [] rfl b l.length (.map es) hm hown (T.kv s) (T.kl s) hx (T.ko s) (fun v ps hv => ?_)
  have hd := heldA_inv hv
  rcases hf with ⟨h1, h2, h3⟩ | ⟨c, u, h1, h2, h3, h4⟩
  · rw [h3] at hd
    injection hd with hd
    subst hd
    rw [h2]
    exact hN h1
  · rw [h4] at hd
    injection hd with hd
    subst hd
    rw [h3]
    exact hY c u h1 h2
/-- 'm[s]' -/
theorem wp_look1S (t e : TypeId) (m x : Operand) (hgd : o.guard = none) (ho : o.op = .lookup t m x false) (ht : P.underlying t = some (.map k e)) {z : Value} (hz : (zeroValue e).run P w = .ok z w)
    (hm : a.eval m = .map (some b)) (h : MS T w F b L) {s : κ} (hx : a.eval x = T.kv s)
    (hN : findS L s = none → wpList P ops Q rest (a.put o.dst z) w)
    (hY : ∀ c v, findS L s = some c → T.V w F v c → wpList P ops Q rest (a.put o.dst v) w) : wpList P ops Q (o :: rest) a w := by
  have K := T.law
  obtain ⟨l, es, hown, hf⟩ := h.find s
  refine wpList_plain hgd fun K' hK' => ?_
  obtain ⟨v, ps, hrun, hv⟩ := hown.lookup K ht hz (zd := .held z) (zp := []) rfl (T.ko s)
  unfold Oper.wp
  simp [execOp, ho, hm, hx, hrun, Result.andThen]
  refine hK' _ _ ?_
  have hd := heldA_inv hv
  rcases hf with ⟨h1, h2, h3⟩ | ⟨c, u, h1, h2, h3, h4⟩
  · rw [h3 (.held z)] at hd
    injection hd with hd
    subst hd
    exact hN h1
  · rw [h4 (.held z)] at hd
    injection hd with hd
    subst hd
    exact hY c u h1 h2
omit [DecidableEq κ] in
/-- 'len(m)' -/
theorem wp_lenS (t e : TypeId) (m : Operand) (hgd : o.guard = none) (ho : o.op = .call { callee := .builtin .len, args := #[m], argTypes := #[t] }) (ht : P.underlying t = some (.map k e))
    (hm : a.eval m = .map (some b)) (h : MS T w F b L) (hK : wpList P ops Q rest (a.put o.dst (.int .i64 (L.length : Int))) w) : wpList P ops Q (o :: rest) a w := by
  obtain ⟨l, es, rfl, hown, hp, _⟩ := h
  refine wpList_len_own w hgd m t ho k e ht heldA b l.length (.map es) hm hown ?_
  have e1 : Maps.size (DataW.map es) = (l.map (·.1)).length := by rw [Maps.size_eq, hp.length_eq]; simp
  rw [e1]
  exact hK
end
theorem woS_map (l : List ((κ × β) × Value)) (s : κ) : woS (l.map (·.1)) s = (l.filter fun p => decide (p.1.1 ≠ s)).map (·.1) := by
  unfold woS
  rw [List.filter_map]
  rfl
theorem entS_filter (s : κ) (l : List ((κ × β) × Value)) : (l.map (entS T)).filter (fun q => !q.1.sameKey (T.kl s)) = (l.filter fun p => decide (p.1.1 ≠ s)).map (entS T) := by
  rw [List.filter_map]
  congr 1
  refine List.filter_congr (fun p _ => ?_)
  show (!(T.kl p.1.1).sameKey (T.kl s)) = _
  rw [MK.same]
  by_cases h : p.1.1 = s <;> simp [h]
/-- the datum behind a store -/
theorem MS.put_of {w' : World} {F' : Nat → Prop} {n : Nat} {l : List ((κ × β) × Value)} {es : List (Lit × DataW Value)} {s : κ} {d : β} {v : Value} (h1 : l.map (·.1) = L) (hp : es.Perm (l.map (entS T))) (h5 : ∀ p ∈ l, T.V w' F' p.2 p.1.2)
    (hv : T.V w' F' v d) (ho : w'.ownsMap P k heldA b n ((DataW.map es).put (T.kl s) (.held v))) : MS T w' F' b ((s, d) :: woS L s) := by
  subst h1
  have hpp : (DataW.insert (T.kl s, DataW.held v) (es.filter fun p => !p.1.sameKey (T.kl s))).Perm ((((s, d), v) :: l.filter fun p => decide (p.1.1 ≠ s)).map (entS T)) := by
    refine (insert_perm _ _).trans ?_
    rw [List.map_cons, ← entS_filter]
    exact (hp.filter _).cons _
  refine ⟨((s, d), v) :: l.filter fun p => decide (p.1.1 ≠ s), _, by rw [List.map_cons, woS_map], ?_, hpp, fun p hp => ?_⟩
  · have := own_tight ho
    have e1 : Maps.size ((DataW.map es).put (T.kl s) (.held v)) = (((s, d), v) :: l.filter fun p => decide (p.1.1 ≠ s)).length := by
      show (DataW.insert (T.kl s, DataW.held v) (es.filter fun p => !p.1.sameKey (T.kl s))).length = _
      rw [hpp.length_eq, List.length_map]
    rw [e1] at this
    exact this
  · rcases List.mem_cons.1 hp with rfl | hp
    · exact hv
    · exact h5 p (List.mem_filter.1 hp).1
theorem MS.del_of {w' : World} {F' : Nat → Prop} {n : Nat} {l : List ((κ × β) × Value)} {es : List (Lit × DataW Value)} {s : κ} (h1 : l.map (·.1) = L) (hp : es.Perm (l.map (entS T))) (h5 : ∀ p ∈ l, T.V w' F' p.2 p.1.2)
    (ho : w'.ownsMap P k heldA b n ((DataW.map es).del (T.kl s))) : MS T w' F' b (woS L s) := by
  subst h1
  have hpp : (es.filter fun p => !p.1.sameKey (T.kl s)).Perm ((l.filter fun p => decide (p.1.1 ≠ s)).map (entS T)) := by
    rw [← entS_filter]
    exact hp.filter _
  refine ⟨l.filter fun p => decide (p.1.1 ≠ s), _, (woS_map l s).symm, ?_, hpp, fun p hp => h5 p (List.mem_filter.1 hp).1⟩
  have := own_tight ho
  have e1 : Maps.size ((DataW.map es).del (T.kl s)) = (l.filter fun p => decide (p.1.1 ≠ s)).length := by
    show (es.filter fun p => !p.1.sameKey (T.kl s)).length = _
    rw [hpp.length_eq, List.length_map]
  rw [e1] at this
  exact this
section
variable {ops : Array Oper} {rest : List Oper} {o : Oper} {a : Act} {Q : Exit → Act → World → Prop}
/-- 'm[s] = v' -/
theorem wp_putS (t e : TypeId) (m x y : Operand) (hgd : o.guard = none) (ho : o.op = .mapUpdate t m x y) (ht : P.underlying t = some (.map k e))
    (hm : a.eval m = .map (some b)) (h : MS T w F b L) (hL : L.length < maxLen) {s : κ} (hx : a.eval x = T.kv s) {v : Value} (hy : a.eval y = v) {d : β} (hv : T.V w F v d) (hF : ¬ F b)
    (hK : ∀ w', MS T w' F b ((s, d) :: woS L s) → w.grownBy w' (some b) → w.heap.size = w'.heap.size → wpList P ops Q rest (a.put o.dst undef) w') : wpList P ops Q (o :: rest) a w := by
  have K := T.law
  obtain ⟨l, es, h1, hown, hp, h5⟩ := h
  have hl : l.length < maxLen := by rw [← h1] at hL; simpa using hL
  refine wpList_mapUpdate_in w hgd m x y t ho k e K ht heldA b l.length (.map es) hm hown hl (T.kv s) v (T.kl s) hx hy (T.ko s) (.held v) [] rfl (fun w' ho' ht' => ?_)
  have hg := ht'.grown
  have hkp : ∀ x, x < w.heap.size → F x → F x ∧ w'.heap[x]? = w.heap[x]? := fun x hx hf => ⟨hf, hg.block x hx (fun e => by injection e with e; subst e; exact hF hf)⟩
  refine hK w' (MS.put_of h1 hp (fun p hp => T.keep (h5 p hp) hkp) (T.keep hv hkp) ho') hg ?_
  obtain ⟨es1, clock, es2, clock2, _, rfl⟩ := ht'
  simp [ChangeMaps.setBlock]
/-- 'delete(m, s)' -/
theorem wp_delS (t e : TypeId) (m x : Operand) (hgd : o.guard = none) (ho : o.op = .call { callee := .builtin .delete, args := #[m, x], argTypes := #[t, k] }) (ht : P.underlying t = some (.map k e))
    (hm : a.eval m = .map (some b)) (h : MS T w F b L) {s : κ} (hx : a.eval x = T.kv s) (hF : ¬ F b)
    (hK : ∀ w', MS T w' F b (woS L s) → w.grownBy w' (some b) → w.heap.size = w'.heap.size → wpList P ops Q rest (a.put o.dst (.tuple #[])) w') : wpList P ops Q (o :: rest) a w := by
  have K := T.law
  obtain ⟨l, es, h1, hown, hp, h5⟩ := h
  refine wpList_delete_own w hgd m x t k ho e K ht heldA b l.length (.map es) hm hown (T.kv s) (T.kl s) hx (T.ko s) (fun w' ho' ht' => ?_)
  have hg := ht'.grown
  have hkp : ∀ x, x < w.heap.size → F x → F x ∧ w'.heap[x]? = w.heap[x]? := fun x hx hf => ⟨hf, hg.block x hx (fun e => by injection e with e; subst e; exact hF hf)⟩
  refine hK w' (MS.del_of h1 hp (fun p hp => T.keep (h5 p hp) hkp) ho') hg ?_
  obtain ⟨es1, clock, es2, clock2, _, rfl⟩ := ht'
  simp [ChangeMaps.setBlock]
end
/-- a range over the map, by iterator r: dn have come, rs are still to come -/
def RS (T : MK P k κ β) (w : World) (F : Nat → Prop) (b r : Nat) (dn rs : List (κ × β)) : Prop :=
  ∃ (ld lr : List ((κ × β) × Value)) (es : List (Lit × DataW Value)) (left : Lit → Bool) (cnt : Nat), ld.map (·.1) = dn ∧ lr.map (·.1) = rs ∧ w.ranges P k heldA b r (ld ++ lr).length (.map es) left cnt ∧ es.Perm ((ld ++ lr).map (entS T)) ∧
    (∀ p ∈ ld ++ lr, T.V w F p.2 p.1.2) ∧ ∀ s, left (T.kl s) = true ↔ ∃ p ∈ lr, p.1.1 = s
omit [DecidableEq κ] in
theorem RS.owns {r : Nat} {dn rs : List (κ × β)} (h : RS T w F b r dn rs) : MS T w F b (dn ++ rs) := by
  obtain ⟨ld, lr, es, left, cnt, rfl, rfl, h3, h4, h5, _⟩ := h
  exact ⟨ld ++ lr, es, by rw [List.map_append], h3.owns, h4, h5⟩
omit [DecidableEq κ] in
theorem RS.keep {w' : World} {F' : Nat → Prop} {r : Nat} {dn rs : List (κ × β)} (h : RS T w F b r dn rs) (hb : w'.heap[b]? = w.heap[b]?) (hr : w'.heap[r]? = w.heap[r]?) (hF : ∀ x, x < w.heap.size → F x → F' x ∧ w'.heap[x]? = w.heap[x]?) : RS T w' F' b r dn rs ∧ w'.rangeLeft b r = w.rangeLeft b r := by
  obtain ⟨ld, lr, es, left, cnt, h1, h2, ⟨es0, clock, since, seen, c0, q1, q2, q3, q4, q5, q6⟩, h4, h5, h6⟩ := h
  exact ⟨⟨ld, lr, es, left, cnt, h1, h2, ⟨es0, clock, since, seen, c0, hb.trans q1, q2, q3, q4, hr.trans q5, q6⟩, h4, fun p hp => T.keep (h5 p hp) hF, h6⟩, by unfold World.rangeLeft; rw [hb, hr]⟩
section
variable {ops : Array Oper} {rest : List Oper} {o : Oper} {a : Act} {Q : Exit → Act → World → Prop}
/-- 'range m' -/
theorem wp_rangeS (t e : TypeId) (m : Operand) (hgd : o.guard = none) (ho : o.op = .range t m) (ht : P.underlying t = some (.map k e)) (hm : a.eval m = .map (some b)) (h : MS T w F b L)
    (hK : ∀ w', RS T w' F b w.heap.size [] L → w.grownBy w' none → w'.heap.size = w.heap.size + 1 → wpList P ops Q rest (a.put o.dst (.pointer (some ⟨w.heap.size, 0, none⟩))) w') : wpList P ops Q (o :: rest) a w := by
  have K := T.law
  obtain ⟨l, es, rfl, hown, hp, h5⟩ := h
  refine wpList_range_own w hgd m t ho k e K ht heldA b l.length (.map es) hm hown (fun w' hr hg hs => hK w' ?_ hg hs)
  have hkp : ∀ x, x < w.heap.size → F x → F x ∧ w'.heap[x]? = w.heap[x]? := fun x hx hf => ⟨hf, hg.block x hx (by simp)⟩
  refine ⟨[], l, es, _, _, rfl, rfl, hr, by rw [List.nil_append]; exact hp, fun p hp => ?_, fun s => ?_⟩
  · rw [List.nil_append] at hp
    exact T.keep (h5 p hp) hkp
  · rw [Maps.has_eq, List.any_eq_true]
    constructor
    · rintro ⟨q, hq, hs⟩
      obtain ⟨p, hp', rfl⟩ := List.mem_map.1 (hp.mem_iff.1 hq)
      have : decide (p.1.1 = s) = true := by rw [← MK.same (T := T)]; exact hs
      exact ⟨p, hp', of_decide_eq_true this⟩
    · rintro ⟨p, hp', rfl⟩
      exact ⟨entS T p, hp.mem_iff.2 (List.mem_map.2 ⟨p, hp', rfl⟩), WideAt.sameKey_self (MK.key _)⟩
/-- the step -/
theorem wp_nextS (it : Operand) (hgd : o.guard = none) (ho : o.op = .next it false) {r : Nat} {dn rs : List (κ × β)} (hit : a.eval it = .pointer (some ⟨r, 0, none⟩)) (h : RS T w F b r dn rs) (hF : ¬ F r)
    (hDone : rs = [] → wpList P ops Q rest (a.put o.dst (.tuple #[.bool false])) w)
    (hMore : ∀ (f : κ × β) rs' v w', rs.Perm (f :: rs') → RS T w' F b r (dn ++ [f]) rs' → T.V w' F v f.2 → w'.rangeLeft b r < w.rangeLeft b r → w.grownBy w' (some r) → w'.heap.size = w.heap.size →
      (Instr.entry (.pointer (some ⟨r, 0, none⟩))).run P w' = .ok (.tuple #[T.kv f.1, v]) w' → wpList P ops Q rest (a.put o.dst (.tuple #[.bool true, T.kv f.1, v])) w') : wpList P ops Q (o :: rest) a w := by
  have K := T.law
  obtain ⟨ld, lr, es, left, cnt, rfl, rfl, hrg, hp, h5, h6⟩ := h
  refine wpList_plain hgd fun K' hK' => ?_
  unfold Oper.wp
  rcases hrg.next K o.type with ⟨h0, hl, hrun⟩ | ⟨key, v, kl, y, w', cnt', hkey, hlk, hv, hat, hrun, hrg', hlt, hgr, hsz, hen⟩
  · simp [execOp, ho, hit, hrun, Result.andThen]
    refine hK' _ _ (hDone ?_)
    match lr, h6 with
    | [], _ => rfl
    | p :: lr, h6 =>
      have := (h6 p.1.1).2 ⟨p, by simp, rfl⟩
      rw [hl] at this
      cases this
  · obtain ⟨s, rfl⟩ := T.inv hkey
    obtain rfl : T.kl s = kl := Option.some.inj ((T.ko s).symm.trans hkey)
    obtain ⟨p, hpl, rfl⟩ := (h6 s).1 hlk
    have hu := entsS_uq hrg.owns hp
    obtain ⟨l1, l2, rfl⟩ := List.append_of_mem hpl
    have hpe : (l1 ++ p :: l2).Perm (p :: (l1 ++ l2)) := List.perm_middle
    have hpm : entS T p ∈ es := hp.mem_iff.2 (List.mem_map.2 ⟨p, by simp, rfl⟩)
    have hy : y.1 = .held p.2 := by
      have hf : (es.find? fun q => q.1.sameKey (T.kl p.1.1)) = some (entS T p) := by
        have h1 := find_perm hp ((hp.pairwise_iff (fun {a b} h => fun e => h ⟨e.2, e.1⟩)).2 (uqS_pair hu p.1.1))
        rw [h1]
        have h2 : ((ld ++ (l1 ++ p :: l2)).map (entS T)).Perm ((p :: (ld ++ (l1 ++ l2))).map (entS T)) := List.Perm.map _ ((hpe.append_left ld).trans List.perm_middle)
        rw [find_perm h2 (uqS_pair hu p.1.1), List.map_cons, List.find?_cons]
        have : (entS T p).1.sameKey (T.kl p.1.1) = true := WideAt.sameKey_self (MK.key _)
        rw [this]
      have h1 := hat (.held v)
      unfold DataW.atKey at h1
      dsimp only at h1
      rw [hf] at h1
      exact h1.symm
    obtain ⟨y1, y2⟩ := y
    have hd := heldA_inv hv
    dsimp only at hy
    rw [hy] at hd
    injection hd with hd
    have hrp := h5 p (by simp)
    have hkp : ∀ x, x < w.heap.size → F x → F x ∧ w'.heap[x]? = w.heap[x]? := fun x hx hf => ⟨hf, hgr.block x hx (fun e => by injection e with e; subst e; exact hF hf)⟩
    have hrp' := T.keep hrp hkp
    rw [hd] at hrp'
    simp [execOp, ho, hit, hrun, Result.andThen]
    have hml := hrg.left_eq
    have hml' := hrg'.left_eq
    refine hK' _ _ (hMore p.1 ((l1 ++ l2).map (·.1)) v w' (hpe.map (·.1)) ⟨ld ++ [p], l1 ++ l2, es, fun z => left z && !z.sameKey (T.kl p.1.1), cnt', by simp, rfl, ?_, ?_, fun q hq => ?_, fun z => ?_⟩ hrp' (by rw [hml, hml']; exact hlt) hgr hsz hen)
    · have e1 : (ld ++ (l1 ++ p :: l2)).length = (ld ++ [p] ++ (l1 ++ l2)).length := by simp; omega
      rw [← e1]
      exact hrg'
    · refine hp.trans (List.Perm.map _ ?_)
      rw [List.append_assoc]
      exact (hpe.append_left ld)
    · have hq' : q ∈ ld ++ (l1 ++ p :: l2) := by simp at hq ⊢; rcases hq with h | h | h | h <;> simp [h]
      exact T.keep (h5 q hq') hkp
    · show (left (T.kl z) && !(T.kl z).sameKey (T.kl p.1.1)) = true ↔ _
      rw [MK.same, Bool.and_eq_true, h6 z]
      constructor
      · rintro ⟨⟨q, hq, rfl⟩, hne⟩
        have hne : ¬ q.1.1 = p.1.1 := by simpa using hne
        refine ⟨q, ?_, rfl⟩
        simp at hq ⊢
        rcases hq with h | rfl | h
        · exact .inl h
        · exact absurd rfl hne
        · exact .inr h
      · rintro ⟨q, hq, rfl⟩
        refine ⟨⟨q, by simp at hq ⊢; rcases hq with h | h <;> simp [h], rfl⟩, ?_⟩
        have hu2 : ((p :: (ld ++ (l1 ++ l2))).map fun p => p.1.1).Nodup := (((hpe.append_left ld).trans List.perm_middle).map _).nodup_iff.1 hu
        rw [List.map_cons, List.nodup_cons] at hu2
        have : ¬ q.1.1 = p.1.1 := fun e => hu2.1 (List.mem_map.2 ⟨q, by simp at hq ⊢; rcases hq with h | h <;> simp [h], e⟩)
        simp [this]
end
end Go.V
/- MT: keys that are a struct of two ints. No project text. -/
namespace Go.V
open Go.RowKit Go.Maps Go.ChangeShapes Go.WideShapes Go.ChangeMaps
/-- a pair of ints that an int holds -/
def K2 : Type := { p : Int × Int // (Lit.int .i64 p.1).wf = true ∧ (Lit.int .i64 p.2).wf = true }
instance : DecidableEq K2 := inferInstanceAs (DecidableEq { p : Int × Int // (Lit.int .i64 p.1).wf = true ∧ (Lit.int .i64 p.2).wf = true })
def K2.v (x : K2) : Value := .agg #[.int .i64 x.1.1, .int .i64 x.1.2]
def K2.l (x : K2) : Lit := .string (keyBytes [.int .i64 x.1.1, .int .i64 x.1.2])
theorem K2.vi {x y : K2} (h : x.v = y.v) : x = y := by
  unfold K2.v at h
  obtain ⟨⟨a, b⟩, _⟩ := x
  obtain ⟨⟨c, d⟩, _⟩ := y
  simp at h
  obtain ⟨rfl, rfl⟩ := h
  rfl
/-- k is a struct of two ints -/
structure TwoInts (P : Program) (k : TypeId) : Prop where
  fs : ∃ f g, P.underlying k = some (.struct #[f, g]) ∧ f.offset = 0 ∧ g.offset = 1 ∧ (f.name != "_") = true ∧ (g.name != "_") = true ∧
    P.underlying f.type = some (.int .i64) ∧ P.underlying g.type = some (.int .i64) ∧ P.cellsOf f.type = 1 ∧ P.cellsOf g.type = 1
  kt : P.keyType k = true
  two : P.cellsOf k = 2
  row : k < P.types.size
  laid : laidOutB P = true
  deep : P.keyTypeAt 2 k = true
variable {P : Program} {k : TypeId}
theorem TwoInts.law (h : TwoInts P k) : Keyed P k := by
  obtain ⟨f, g, h1, _⟩ := h.fs
  exact Keyed.of_law (deep_law_laid h.laid (m := 2) (by omega) h.row h.deep (by rw [h1]))
theorem TwoInts.ko (h : TwoInts P k) (x : K2) : keyOf P k x.v = some x.l := by
  obtain ⟨f, g, h1, h2, h3, h4, h5, h6, h7, h8, h9⟩ := h.fs
  obtain ⟨n, hn⟩ : ∃ n, P.types.size = n + 1 := Nat.exists_eq_succ_of_ne_zero (fun e => absurd h.row (by rw [e]; exact Nat.not_lt_zero _))
  obtain ⟨⟨a, b⟩, ha, hb⟩ := x
  dsimp only at ha hb
  unfold keyOf
  rw [h1]
  dsimp only
  rw [h.kt, hn]
  simp [K2.v, K2.l, Value.formed, h1, h.two, Value.cells, Program.keyLits, h2, h3, h6, h7, h8, h9, ha, hb]
  exact ⟨by simpa using h4, by simpa using h5⟩
theorem TwoInts.inv (h : TwoInts P k) {v : Value} {l : Lit} (hv : keyOf P k v = some l) : ∃ x : K2, v = x.v := by
  obtain ⟨f, g, h1, h2, h3, h4, h5, h6, h7, h8, h9⟩ := h.fs
  obtain ⟨n, hn⟩ : ∃ n, P.types.size = n + 1 := Nat.exists_eq_succ_of_ne_zero (fun e => absurd h.row (by rw [e]; exact Nat.not_lt_zero _))
  unfold keyOf at hv
  rw [h1] at hv
  dsimp only at hv
  rw [h.kt, hn, Bool.true_and] at hv
  split at hv
  · rename_i hf
    cases v <;> simp [Value.formed, h1] at hf
    rename_i cs
    obtain ⟨cs⟩ := cs
    rw [h.two] at hf
    match cs, hf with
    | [c, d], _ =>
      simp [Value.cells, Program.keyLits, h1, h.two, h2, h3, h6, h7, h8, h9] at hv
      cases c <;> simp at hv
      obtain ⟨ls, ⟨_, hq⟩, _⟩ := hv
      rw [Option.bind_eq_some_iff] at hq
      obtain ⟨u, hu, hq⟩ := hq
      cases d <;> simp at hq
      split at hu
      · rename_i e1
        obtain ⟨rfl, ha⟩ := e1
        rw [Option.bind_eq_some_iff] at hq
        obtain ⟨u2, hu2, _⟩ := hq
        rw [Option.bind_eq_some_iff] at hu2
        obtain ⟨u3, hu3, _⟩ := hu2
        split at hu3
        · rename_i e2
          obtain ⟨rfl, hb⟩ := e2
          exact ⟨⟨(_, _), ha, hb⟩, rfl⟩
        · cases hu3
      · cases hu
  · cases hv
/-- maps by such keys -/
def TwoInts.mk' (h : TwoInts P k) {β : Type} (V : World → (Nat → Prop) → Value → β → Prop)
    (keep : ∀ {w w' : World} {F F' : Nat → Prop} {v : Value} {d : β}, V w F v d → (∀ x, x < w.heap.size → F x → F' x ∧ w'.heap[x]? = w.heap[x]?) → V w' F' v d) : MK P k K2 β :=
  ⟨K2.v, K2.l, V, h.law, h.ko, h.inv, K2.vi, keep⟩
/-- a key's cells -/
def K2.cs (x : K2) : List Value := [.int .i64 x.1.1, .int .i64 x.1.2]
theorem one_k2 (x : K2) : ∀ v ∈ x.cs, v.oneCell' = true := by
  intro v hv
  simp only [K2.cs, List.mem_cons, List.not_mem_nil, or_false] at hv
  rcases hv with rfl | rfl <;> rfl
def K2.rows (l : List K2) : List Value := l.flatMap K2.cs
instance : Inhabited K2 := ⟨⟨(0, 0), by decide, by decide⟩⟩
theorem k2_ext {x y : K2} (h1 : x.1.1 = y.1.1) (h2 : x.1.2 = y.1.2) : x = y := Subtype.ext (Prod.ext h1 h2)
theorem rows_at : ∀ (l : List K2) (j : Nat) (x : K2), l[j]? = some x → (K2.rows l)[2 * j]? = some (.int .i64 x.1.1) ∧ (K2.rows l)[2 * j + 1]? = some (.int .i64 x.1.2)
  | [], j, x, h => by simp at h
  | y :: l, 0, x, h => by simp at h; subst h; exact ⟨rfl, rfl⟩
  | y :: l, j + 1, x, h => by
    have := rows_at l j x (by simpa using h)
    have e : K2.rows (y :: l) = .int .i64 y.1.1 :: .int .i64 y.1.2 :: K2.rows l := rfl
    rw [e, show 2 * (j + 1) = 2 * j + 1 + 1 from by omega, List.getElem?_cons_succ, List.getElem?_cons_succ, show 2 * j + 1 + 1 + 1 = (2 * j + 1) + 1 + 1 from rfl, List.getElem?_cons_succ, List.getElem?_cons_succ]
    exact this
theorem rows_len : ∀ (l : List K2), (K2.rows l).length = l.length * 2
  | [] => rfl
  | y :: l => by
    have e : K2.rows (y :: l) = .int .i64 y.1.1 :: .int .i64 y.1.2 :: K2.rows l := rfl
    rw [e, List.length_cons, List.length_cons, rows_len l, List.length_cons]
    omega
end Go.V
