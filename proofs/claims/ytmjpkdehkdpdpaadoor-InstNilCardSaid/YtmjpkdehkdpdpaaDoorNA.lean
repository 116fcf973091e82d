/- NA: several texts in one (MP MS MT MV NA). -/
import Derived.Test.YtmjpkdehkdpdpaaDoorD0
import Derived.Maps.RangeWalk
import Derived.Maps.OwnSet
import Derived.DeepKeys4
import Derived.Test.YtmjpkdehkdpdpaaDoorLW
import Derived.Test.YtmjpkdehkdpdpaaDoorVA
import Derived.WideKeyEntry
/- MP: maps from names to bytes: a block that is a map, told by a list of files. No project text. -/
namespace Go.V
open Go.RowKit Go.Maps Go.ChangeShapes Go.WideShapes Go.ChangeMaps
def mkl (s : ByteArray) : Lit := .string s.data.toList
theorem mkl_inj {s t : ByteArray} (h : mkl s = mkl t) : s = t := by
  unfold mkl at h
  injection h with h
  have : s.data = t.data := Array.toList_inj.1 h
  cases s; cases t; cases this; rfl
theorem mkl_key (s : ByteArray) : WideAt.IsKeyLit (mkl s) := by unfold mkl; simp [WideAt.IsKeyLit]
theorem mkl_same (s t : ByteArray) : (mkl s).sameKey (mkl t) = decide (s = t) := by
  by_cases h : s = t
  · subst h; rw [decide_eq_true rfl]; exact WideAt.sameKey_self (mkl_key s)
  · rw [decide_eq_false h]
    cases hs : (mkl s).sameKey (mkl t) with
    | false => rfl
    | true => exact absurd (mkl_inj (WideAt.sameKey_eq hs)) h
/-- how an element that is a slice reads: as itself -/
def heldR (v : Value) : Option (DataW Value × List MemPlace) := match v with
  | .slice _ _ _ => some (.held v, [])
  | _ => none
theorem heldR_inv {v : Value} {d : DataW Value} {ps : List MemPlace} (h : heldR v = some (d, ps)) : (∃ A n c, v = .slice A n c) ∧ d = .held v := by
  unfold heldR at h
  cases v <;> simp at h
  obtain ⟨rfl, _⟩ := h
  exact ⟨⟨_, _, _, rfl⟩, rfl⟩
def entF (p : Fl × Value) : Lit × DataW Value := (mkl p.1.n, .held p.2)
/-- block b is a map that holds the files of L -/
def FMs (P : Program) (k : TypeId) (w : World) (F : Nat → Prop) (b : Nat) (L : List Fl) : Prop :=
  ∃ (l : List (Fl × Value)) (es : List (Lit × DataW Value)), l.map (·.1) = L ∧ w.ownsMap P k heldR b l.length (.map es) ∧ es.Perm (l.map entF) ∧ ∀ p ∈ l, Rd w F p.2 (bys p.1.b) ∧ p.1.n.size ≤ maxLen
theorem own_tight {P : Program} {k : TypeId} {R : Value → Option (DataW Value × List MemPlace)} {w : World} {b n : Nat} {D : DataW Value} (h : w.ownsMap P k R b n D) : w.ownsMap P k R b (Maps.size D) D := by
  obtain ⟨es, clock, hb, Fh, _, rfl⟩ := h
  exact ⟨es, clock, hb, Fh, by simp [Maps.size, length_sorted], rfl⟩
theorem perm_lift {α β : Type} {f : α → β} {L L' : List β} (h : L.Perm L') : ∀ l : List α, l.map f = L → ∃ l' : List α, l'.map f = L' ∧ l.Perm l' := by
  induction h with
  | nil => exact fun l h => ⟨l, h, .refl _⟩
  | cons x _ ih =>
    intro l h
    match l, h with
    | a :: r, h =>
      rw [List.map_cons] at h
      injection h with h1 h2
      obtain ⟨r', h3, h4⟩ := ih r h2
      exact ⟨a :: r', by rw [List.map_cons, h1, h3], h4.cons a⟩
  | swap x y r =>
    intro l h
    match l, h with
    | a :: c :: t, h =>
      rw [List.map_cons, List.map_cons] at h
      injection h with h1 h2
      injection h2 with h2 h3
      exact ⟨c :: a :: t, by rw [List.map_cons, List.map_cons, h1, h2, h3], .swap _ _ _⟩
  | trans _ _ ih1 ih2 =>
    intro l h
    obtain ⟨l1, h1, h2⟩ := ih1 l h
    obtain ⟨l2, h3, h4⟩ := ih2 l1 h1
    exact ⟨l2, h3, h2.trans h4⟩
variable {P : Program} {k : TypeId} {w : World} {F : Nat → Prop} {b : Nat} {L : List Fl}
theorem FMs.lt (h : FMs P k w F b L) : b < w.heap.size := by
  obtain ⟨l, es, _, ho, _⟩ := h
  exact ho.lt
theorem FMs.keep {w' : World} {F' : Nat → Prop} (h : FMs P k w F b L) (hb : w'.heap[b]? = w.heap[b]?) (hF : ∀ x, x < w.heap.size → F x → F' x ∧ w'.heap[x]? = w.heap[x]?) : FMs P k w' F' b L := by
  obtain ⟨l, es, h1, ⟨es0, clock, h2, h3⟩, h4, h5⟩ := h
  exact ⟨l, es, h1, ⟨es0, clock, hb.trans h2, h3⟩, h4, fun p hp => ⟨(h5 p hp).1.keep hF, (h5 p hp).2⟩⟩
theorem FMs.below {w' : World} (h : FMs P k w F b L) (hB : Below w.heap.size w w') : FMs P k w' F b L :=
  h.keep (hB.block b h.lt) (fun x hx hF => ⟨hF, hB.block x hx⟩)
theorem FMs.weak {F' : Nat → Prop} (h : FMs P k w F b L) (hF : ∀ x, x < w.heap.size → F x → F' x) : FMs P k w F' b L :=
  h.keep rfl (fun x hx h => ⟨hF x hx h, rfl⟩)
theorem FMs.name (h : FMs P k w F b L) : ∀ f ∈ L, f.n.size ≤ maxLen := by
  obtain ⟨l, es, rfl, _, _, h5⟩ := h
  intro f hf
  obtain ⟨p, hp, rfl⟩ := List.mem_map.1 hf
  exact (h5 p hp).2
theorem ents_uq (K : Keyed P k) {n : Nat} {l : List (Fl × Value)} {es : List (Lit × DataW Value)} (ho : w.ownsMap P k heldR b n (.map es)) (hp : es.Perm (l.map entF)) : (l.map fun p => p.1.n).Nodup := by
  obtain ⟨es', he, h2, _⟩ := ho.entries K
  cases he
  have h3 := (hp.pairwise_iff (fun {a b} (h : a.1 ≠ b.1) => h.symm)).1 h2
  rw [List.pairwise_map] at h3
  rw [List.Nodup, List.pairwise_map]
  exact h3.imp (fun h e => h (by unfold entF; rw [e]))
theorem FMs.uq (K : Keyed P k) (h : FMs P k w F b L) : (L.map Fl.n).Nodup := by
  obtain ⟨l, es, rfl, ho, hp, _⟩ := h
  have := ents_uq K ho hp
  rwa [List.map_map]
theorem FMs.perm {L' : List Fl} (h : FMs P k w F b L) (hL : L.Perm L') : FMs P k w F b L' := by
  obtain ⟨l, es, rfl, ho, hp, h5⟩ := h
  obtain ⟨l', h1, h2⟩ : ∃ l' : List (Fl × Value), l'.map (·.1) = L' ∧ l.Perm l' := perm_lift hL l rfl
  exact ⟨l', es, h1, by rw [← h2.length_eq]; exact ho, hp.trans (h2.map _), fun p hp => h5 p (h2.mem_iff.2 hp)⟩
theorem FMs.made : FMs P k (w.alloc (.map #[] 0)) F w.heap.size [] :=
  ⟨[], [], rfl, World.ownsMap_made _ _ _ _, .refl _, fun p hp => by cases hp⟩
theorem any_find {α : Type} (f : α → Bool) : ∀ l : List α, l.any f = (l.find? f).isSome
  | [] => rfl
  | x :: l => by
    rw [List.any_cons, List.find?_cons]
    cases h : f x
    · rw [Bool.false_or]; exact any_find f l
    · rfl
/-- what is found at a name -/
theorem ent_find (s : ByteArray) : ∀ (l : List (Fl × Value)), ((l.map entF).find? fun q => q.1.sameKey (mkl s)) = (l.find? fun p => decide (p.1.n = s)).map entF
  | [] => rfl
  | p :: l => by
    rw [List.map_cons, List.find?_cons, List.find?_cons]
    have : (entF p).1.sameKey (mkl s) = decide (p.1.n = s) := mkl_same _ _
    rw [this]
    by_cases h : p.1.n = s
    · rw [decide_eq_true h]; rfl
    · rw [decide_eq_false h]; exact ent_find s l
theorem find_perm {α : Type} {f : α → Bool} {l l' : List α} (h : l.Perm l') (hu : l.Pairwise fun x y => ¬ (f x = true ∧ f y = true)) : l.find? f = l'.find? f := by
  induction h with
  | nil => rfl
  | cons x _ ih =>
    rw [List.find?_cons, List.find?_cons]
    rw [List.pairwise_cons] at hu
    rw [ih hu.2]
  | swap x y l =>
    rw [List.find?_cons, List.find?_cons, List.find?_cons, List.find?_cons]
    rw [List.pairwise_cons] at hu
    have := hu.1 x (by simp)
    cases hx : f x <;> cases hy : f y <;> simp_all
  | trans h1 _ ih1 ih2 =>
    rw [ih1 hu, ih2 ((h1.pairwise_iff (fun {a b} h => fun e => h ⟨e.2, e.1⟩)).1 hu)]
theorem fl_find (s : ByteArray) : ∀ (l : List (Fl × Value)), findF (l.map (·.1)) s = (l.find? fun p => decide (p.1.n = s)).map fun p => p.1.b
  | [] => rfl
  | p :: l => by
    rw [List.map_cons, findF, List.find?_cons]
    by_cases h : p.1.n = s
    · rw [if_pos h, decide_eq_true h]; rfl
    · rw [if_neg h, decide_eq_false h]; exact fl_find s l
theorem uq_pair {l : List (Fl × Value)} (h : (l.map fun p => p.1.n).Nodup) (s : ByteArray) : (l.map entF).Pairwise fun x y => ¬ (x.1.sameKey (mkl s) = true ∧ y.1.sameKey (mkl s) = true) := by
  rw [List.Nodup, List.pairwise_map] at h
  rw [List.pairwise_map]
  refine h.imp (fun {p q} hne hh => hne ?_)
  have h1 : decide (p.1.n = s) = true := by rw [← mkl_same]; exact hh.1
  have h2 : decide (q.1.n = s) = true := by rw [← mkl_same]; exact hh.2
  rw [of_decide_eq_true h1, of_decide_eq_true h2]
/-- the slice at a name -/
theorem FMs.find (K : Keyed P k) (h : FMs P k w F b L) (s : ByteArray) : ∃ (l : List (Fl × Value)) (es : List (Lit × DataW Value)), w.ownsMap P k heldR b l.length (.map es) ∧
    ((findF L s = none ∧ Maps.has (.map es) (mkl s) = false ∧ ∀ z : DataW Value, (DataW.map es).atKey (mkl s) z = z) ∨
     ∃ c v, findF L s = some c ∧ Rd w F v (bys c) ∧ Maps.has (.map es) (mkl s) = true ∧ ∀ z : DataW Value, (DataW.map es).atKey (mkl s) z = .held v) := by
  obtain ⟨l, es, rfl, ho, hp, h5⟩ := h
  refine ⟨l, es, ho, ?_⟩
  have hu := ents_uq K ho hp
  have hf : (es.find? fun q => q.1.sameKey (mkl s)) = (l.find? fun p => decide (p.1.n = s)).map entF := by
    rw [← ent_find]
    exact find_perm hp ((hp.pairwise_iff (fun {a b} h => fun e => h ⟨e.2, e.1⟩)).2 (uq_pair hu s))
  have hat : ∀ z : DataW Value, (DataW.map es).atKey (mkl s) z = match (l.find? fun p => decide (p.1.n = s)) with | some p => .held p.2 | none => z := fun z => by
    unfold DataW.atKey
    dsimp only
    rw [hf]
    cases l.find? fun p => decide (p.1.n = s) <;> rfl
  have hha : Maps.has (.map es) (mkl s) = (l.find? fun p => decide (p.1.n = s)).isSome := by
    rw [Maps.has_eq, any_find, hf]
    cases l.find? fun p => decide (p.1.n = s) <;> rfl
  rw [fl_find]
  cases hq : l.find? fun p => decide (p.1.n = s) with
  | none =>
    rw [hq] at hha
    exact .inl ⟨rfl, hha, fun z => by rw [hat, hq]⟩
  | some p =>
    rw [hq] at hha
    exact .inr ⟨p.1.b, p.2, rfl, (h5 p (List.mem_of_find?_eq_some hq)).1, hha, fun z => by rw [hat, hq]⟩
section
variable {ops : Array Oper} {rest : List Oper} {o : Oper} {a : Act} {Q : Exit → Act → World → Prop}
/-- 'v, ok := m[s]' -/
theorem wp_lookF (t e : TypeId) (m x : Operand) (hgd : o.guard = none) (ho : o.op = .lookup t m x true) (hk : P.underlying k = some .string) (ht : P.underlying t = some (.map k e)) (hz : (zeroValue e).run P w = .ok (.slice none 0 0) w)
    (hm : a.eval m = .map (some b)) (h : FMs P k w F b L) {s : ByteArray} (hx : a.eval x = .string s) (hs : s.size ≤ maxLen)
    (hK : ∀ A c, Rd w F (.slice A ((findF L s).getD []).length c) (bys ((findF L s).getD [])) → wpList P ops Q rest (a.put o.dst (.tuple #[.slice A ((findF L s).getD []).length c, .bool (findF L s).isSome])) w) : wpList P ops Q (o :: rest) a w := by
  have K := string_keyed hk
  obtain ⟨l, es, hown, hf⟩ := h.find K s
  refine wpList_lookup_own_ok w hgd m x t ho k e K ht heldR hz (.held (.slice none 0 0)) [] rfl b l.length (.map es) hm hown (.string s) (mkl s) hx (WideMaps.keyOf_string_mk hk hs) (fun v ps hv => ?_)
  obtain ⟨-, hd⟩ := heldR_inv hv
  rcases hf with ⟨h1, h2, h3⟩ | ⟨c, u, h1, h2, h3, h4⟩
  · rw [h3] at hd
    injection hd with hd
    subst hd
    rw [h2]
    rw [h1] at hK
    exact hK none 0 (Rd.nil _ _)
  · rw [h4] at hd
    injection hd with hd
    subst hd
    rw [h3]
    rw [h1] at hK
    obtain ⟨A, cc, rfl⟩ := h2.shape
    exact hK A cc h2
/-- 'm[s]' -/
theorem wp_look1F (t e : TypeId) (m x : Operand) (hgd : o.guard = none) (ho : o.op = .lookup t m x false) (hk : P.underlying k = some .string) (ht : P.underlying t = some (.map k e)) (hz : (zeroValue e).run P w = .ok (.slice none 0 0) w)
    (hm : a.eval m = .map (some b)) (h : FMs P k w F b L) {s : ByteArray} (hx : a.eval x = .string s) (hs : s.size ≤ maxLen)
    (hK : ∀ A c, Rd w F (.slice A ((findF L s).getD []).length c) (bys ((findF L s).getD [])) → wpList P ops Q rest (a.put o.dst (.slice A ((findF L s).getD []).length c)) w) : wpList P ops Q (o :: rest) a w := by
  have K := string_keyed hk
  obtain ⟨l, es, hown, hf⟩ := h.find K s
  refine wpList_plain hgd fun K' hK' => ?_
  obtain ⟨v, ps, hrun, hv⟩ := hown.lookup K ht hz (zd := .held (.slice none 0 0)) (zp := []) rfl (WideMaps.keyOf_string_mk hk hs)
  unfold Oper.wp
  simp [execOp, ho, hm, hx, hrun, Result.andThen]
  refine hK' _ _ ?_
  obtain ⟨-, hd⟩ := heldR_inv hv
  rcases hf with ⟨h1, h2, h3⟩ | ⟨c, u, h1, h2, h3, h4⟩
  · have h3 := h3 (.held (.slice none 0 0))
    unfold mkl at h3
    rw [h3] at hd
    injection hd with hd
    subst hd
    rw [h1] at hK
    exact hK none 0 (Rd.nil _ _)
  · have h4 := h4 (.held (.slice none 0 0))
    unfold mkl at h4
    rw [h4] at hd
    injection hd with hd
    subst hd
    rw [h1] at hK
    obtain ⟨A, cc, rfl⟩ := h2.shape
    exact hK A cc h2
/-- 'len(m)' -/
theorem wp_lenF (t e : TypeId) (m : Operand) (hgd : o.guard = none) (ho : o.op = .call { callee := .builtin .len, args := #[m], argTypes := #[t] }) (ht : P.underlying t = some (.map k e))
    (hm : a.eval m = .map (some b)) (h : FMs P k w F b L) (hK : wpList P ops Q rest (a.put o.dst (.int .i64 (L.length : Int))) w) : wpList P ops Q (o :: rest) a w := by
  obtain ⟨l, es, rfl, hown, hp, _⟩ := h
  refine wpList_len_own w hgd m t ho k e ht heldR b l.length (.map es) hm hown ?_
  have e1 : Maps.size (DataW.map es) = (l.map (·.1)).length := by rw [Maps.size_eq, hp.length_eq]; simp
  rw [e1]
  exact hK
end
theorem woF_map (l : List (Fl × Value)) (s : ByteArray) : woF (l.map (·.1)) s = (l.filter fun p => decide (p.1.n ≠ s)).map (·.1) := by
  unfold woF
  rw [List.filter_map]
  rfl
theorem ent_filter (s : ByteArray) (l : List (Fl × Value)) : (l.map entF).filter (fun q => !q.1.sameKey (mkl s)) = (l.filter fun p => decide (p.1.n ≠ s)).map entF := by
  rw [List.filter_map]
  congr 1
  refine List.filter_congr (fun p _ => ?_)
  show (!(mkl p.1.n).sameKey (mkl s)) = _
  rw [mkl_same]
  by_cases h : p.1.n = s <;> simp [h]
/-- the datum behind a store -/
theorem FMs.put_of {w' : World} {F' : Nat → Prop} {n : Nat} {l : List (Fl × Value)} {es : List (Lit × DataW Value)} {s : ByteArray} {bs : List UInt8} {v : Value} (h1 : l.map (·.1) = L) (hp : es.Perm (l.map entF)) (h5 : ∀ p ∈ l, Rd w' F' p.2 (bys p.1.b) ∧ p.1.n.size ≤ maxLen)
    (hs : s.size ≤ maxLen) (hv : Rd w' F' v (bys bs)) (ho : w'.ownsMap P k heldR b n ((DataW.map es).put (mkl s) (.held v))) : FMs P k w' F' b (⟨s, bs⟩ :: woF L s) := by
  subst h1
  have hpp : (DataW.insert (mkl s, DataW.held v) (es.filter fun p => !p.1.sameKey (mkl s))).Perm (((⟨s, bs⟩, v) :: l.filter fun p => decide (p.1.n ≠ s)).map entF) := by
    refine (insert_perm _ _).trans ?_
    rw [List.map_cons, ← ent_filter]
    exact (hp.filter _).cons _
  refine ⟨(⟨s, bs⟩, v) :: l.filter fun p => decide (p.1.n ≠ s), _, by rw [List.map_cons, woF_map], ?_, hpp, fun p hp => ?_⟩
  · have := own_tight ho
    have e1 : Maps.size ((DataW.map es).put (mkl s) (.held v)) = ((⟨s, bs⟩, v) :: l.filter fun p => decide (p.1.n ≠ s)).length := by
      show (DataW.insert (mkl s, DataW.held v) (es.filter fun p => !p.1.sameKey (mkl s))).length = _
      rw [hpp.length_eq, List.length_map]
    rw [e1] at this
    exact this
  · rcases List.mem_cons.1 hp with rfl | hp
    · exact ⟨hv, hs⟩
    · exact h5 p (List.mem_filter.1 hp).1
theorem FMs.del_of {w' : World} {F' : Nat → Prop} {n : Nat} {l : List (Fl × Value)} {es : List (Lit × DataW Value)} {s : ByteArray} (h1 : l.map (·.1) = L) (hp : es.Perm (l.map entF)) (h5 : ∀ p ∈ l, Rd w' F' p.2 (bys p.1.b) ∧ p.1.n.size ≤ maxLen)
    (ho : w'.ownsMap P k heldR b n ((DataW.map es).del (mkl s))) : FMs P k w' F' b (woF L s) := by
  subst h1
  have hpp : (es.filter fun p => !p.1.sameKey (mkl s)).Perm ((l.filter fun p => decide (p.1.n ≠ s)).map entF) := by
    rw [← ent_filter]
    exact hp.filter _
  refine ⟨l.filter fun p => decide (p.1.n ≠ s), _, (woF_map l s).symm, ?_, hpp, fun p hp => h5 p (List.mem_filter.1 hp).1⟩
  have := own_tight ho
  have e1 : Maps.size ((DataW.map es).del (mkl s)) = (l.filter fun p => decide (p.1.n ≠ s)).length := by
    show (es.filter fun p => !p.1.sameKey (mkl s)).length = _
    rw [hpp.length_eq, List.length_map]
  rw [e1] at this
  exact this
section
variable {ops : Array Oper} {rest : List Oper} {o : Oper} {a : Act} {Q : Exit → Act → World → Prop}
/-- 'm[s] = v' -/
theorem wp_putF (t e : TypeId) (m x y : Operand) (hgd : o.guard = none) (ho : o.op = .mapUpdate t m x y) (hk : P.underlying k = some .string) (ht : P.underlying t = some (.map k e))
    (hm : a.eval m = .map (some b)) (h : FMs P k w F b L) (hL : L.length < maxLen) {s : ByteArray} (hx : a.eval x = .string s) (hs : s.size ≤ maxLen) {A : Option Addr} {n c : Nat} (hy : a.eval y = .slice A n c) {bs : List UInt8} (hv : Rd w F (.slice A n c) (bys bs)) (hF : ¬ F b)
    (hK : ∀ w', FMs P k w' F b (⟨s, bs⟩ :: woF L s) → w.grownBy w' (some b) → w.heap.size = w'.heap.size → wpList P ops Q rest (a.put o.dst undef) w') : wpList P ops Q (o :: rest) a w := by
  have K := string_keyed hk
  obtain ⟨l, es, h1, hown, hp, h5⟩ := h
  have hl : l.length < maxLen := by rw [← h1] at hL; simpa using hL
  refine wpList_mapUpdate_in w hgd m x y t ho k e K ht heldR b l.length (.map es) hm hown hl (.string s) (.slice A n c) (mkl s) hx hy (WideMaps.keyOf_string_mk hk hs) (.held (.slice A n c)) [] rfl (fun w' ho' ht' => ?_)
  have hg := ht'.grown
  have hkp : ∀ x, x < w.heap.size → F x → F x ∧ w'.heap[x]? = w.heap[x]? := fun x hx hf => ⟨hf, hg.block x hx (fun e => by injection e with e; subst e; exact hF hf)⟩
  refine hK w' (FMs.put_of h1 hp (fun p hp => ⟨(h5 p hp).1.keep hkp, (h5 p hp).2⟩) hs (hv.keep hkp) ho') hg ?_
  obtain ⟨es1, clock, es2, clock2, _, rfl⟩ := ht'
  simp [ChangeMaps.setBlock]
/-- 'delete(m, s)' -/
theorem wp_delF (t e : TypeId) (m x : Operand) (hgd : o.guard = none) (ho : o.op = .call { callee := .builtin .delete, args := #[m, x], argTypes := #[t, k] }) (hk : P.underlying k = some .string) (ht : P.underlying t = some (.map k e))
    (hm : a.eval m = .map (some b)) (h : FMs P k w F b L) {s : ByteArray} (hx : a.eval x = .string s) (hs : s.size ≤ maxLen) (hF : ¬ F b)
    (hK : ∀ w', FMs P k w' F b (woF L s) → w.grownBy w' (some b) → w.heap.size = w'.heap.size → wpList P ops Q rest (a.put o.dst (.tuple #[])) w') : wpList P ops Q (o :: rest) a w := by
  have K := string_keyed hk
  obtain ⟨l, es, h1, hown, hp, h5⟩ := h
  refine wpList_delete_own w hgd m x t k ho e K ht heldR b l.length (.map es) hm hown (.string s) (mkl s) hx (WideMaps.keyOf_string_mk hk hs) (fun w' ho' ht' => ?_)
  have hg := ht'.grown
  have hkp : ∀ x, x < w.heap.size → F x → F x ∧ w'.heap[x]? = w.heap[x]? := fun x hx hf => ⟨hf, hg.block x hx (fun e => by injection e with e; subst e; exact hF hf)⟩
  refine hK w' (FMs.del_of h1 hp (fun p hp => ⟨(h5 p hp).1.keep hkp, (h5 p hp).2⟩) ho') hg ?_
  obtain ⟨es1, clock, es2, clock2, _, rfl⟩ := ht'
  simp [ChangeMaps.setBlock]
end
/-- a range over the map, by iterator r: dn have come, rs are still to come -/
def FRs (P : Program) (k : TypeId) (w : World) (F : Nat → Prop) (b r : Nat) (dn rs : List Fl) : Prop :=
  ∃ (ld lr : List (Fl × Value)) (es : List (Lit × DataW Value)) (left : Lit → Bool) (cnt : Nat), ld.map (·.1) = dn ∧ lr.map (·.1) = rs ∧ w.ranges P k heldR b r (ld ++ lr).length (.map es) left cnt ∧ es.Perm ((ld ++ lr).map entF) ∧
    (∀ p ∈ ld ++ lr, Rd w F p.2 (bys p.1.b) ∧ p.1.n.size ≤ maxLen) ∧ ∀ s, left (mkl s) = true ↔ ∃ p ∈ lr, p.1.n = s
theorem FRs.owns {r : Nat} {dn rs : List Fl} (h : FRs P k w F b r dn rs) : FMs P k w F b (dn ++ rs) := by
  obtain ⟨ld, lr, es, left, cnt, rfl, rfl, h3, h4, h5, _⟩ := h
  exact ⟨ld ++ lr, es, by rw [List.map_append], h3.owns, h4, h5⟩
theorem FRs.keep {w' : World} {F' : Nat → Prop} {r : Nat} {dn rs : List Fl} (h : FRs P k w F b r dn rs) (hb : w'.heap[b]? = w.heap[b]?) (hr : w'.heap[r]? = w.heap[r]?) (hF : ∀ x, x < w.heap.size → F x → F' x ∧ w'.heap[x]? = w.heap[x]?) : FRs P k w' F' b r dn rs ∧ w'.rangeLeft b r = w.rangeLeft b r := by
  obtain ⟨ld, lr, es, left, cnt, h1, h2, ⟨es0, clock, since, seen, c0, q1, q2, q3, q4, q5, q6⟩, h4, h5, h6⟩ := h
  exact ⟨⟨ld, lr, es, left, cnt, h1, h2, ⟨es0, clock, since, seen, c0, hb.trans q1, q2, q3, q4, hr.trans q5, q6⟩, h4, fun p hp => ⟨(h5 p hp).1.keep hF, (h5 p hp).2⟩, h6⟩, by unfold World.rangeLeft; rw [hb, hr]⟩
section
variable {ops : Array Oper} {rest : List Oper} {o : Oper} {a : Act} {Q : Exit → Act → World → Prop}
/-- 'range m' -/
theorem wp_rangeF (t e : TypeId) (m : Operand) (hgd : o.guard = none) (ho : o.op = .range t m) (hk : P.underlying k = some .string) (ht : P.underlying t = some (.map k e)) (hm : a.eval m = .map (some b)) (h : FMs P k w F b L)
    (hK : ∀ w', FRs P k w' F b w.heap.size [] L → w.grownBy w' none → w'.heap.size = w.heap.size + 1 → wpList P ops Q rest (a.put o.dst (.pointer (some ⟨w.heap.size, 0, none⟩))) w') : wpList P ops Q (o :: rest) a w := by
  have K := string_keyed hk
  obtain ⟨l, es, rfl, hown, hp, h5⟩ := h
  refine wpList_range_own w hgd m t ho k e K ht heldR b l.length (.map es) hm hown (fun w' hr hg hs => hK w' ?_ hg hs)
  have hkp : ∀ x, x < w.heap.size → F x → F x ∧ w'.heap[x]? = w.heap[x]? := fun x hx hf => ⟨hf, hg.block x hx (by simp)⟩
  refine ⟨[], l, es, _, _, rfl, rfl, hr, by rw [List.nil_append]; exact hp, fun p hp => ?_, fun s => ?_⟩
  · rw [List.nil_append] at hp
    exact ⟨(h5 p hp).1.keep hkp, (h5 p hp).2⟩
  · rw [Maps.has_eq, List.any_eq_true]
    constructor
    · rintro ⟨q, hq, hs⟩
      obtain ⟨p, hp', rfl⟩ := List.mem_map.1 (hp.mem_iff.1 hq)
      have : decide (p.1.n = s) = true := by rw [← mkl_same]; exact hs
      exact ⟨p, hp', of_decide_eq_true this⟩
    · rintro ⟨p, hp', rfl⟩
      exact ⟨entF p, hp.mem_iff.2 (List.mem_map.2 ⟨p, hp', rfl⟩), WideAt.sameKey_self (mkl_key _)⟩
/-- the step -/
theorem wp_nextF (it : Operand) (hgd : o.guard = none) (ho : o.op = .next it false) (hk : P.underlying k = some .string) {r : Nat} {dn rs : List Fl} (hit : a.eval it = .pointer (some ⟨r, 0, none⟩)) (h : FRs P k w F b r dn rs) (hF : ¬ F r)
    (hDone : rs = [] → wpList P ops Q rest (a.put o.dst (.tuple #[.bool false])) w)
    (hMore : ∀ f rs' A c w', rs.Perm (f :: rs') → FRs P k w' F b r (dn ++ [f]) rs' → Rd w' F (.slice A f.b.length c) (bys f.b) → w'.rangeLeft b r < w.rangeLeft b r → w.grownBy w' (some r) → w'.heap.size = w.heap.size →
      (Instr.entry (.pointer (some ⟨r, 0, none⟩))).run P w' = .ok (.tuple #[.string f.n, .slice A f.b.length c]) w' → wpList P ops Q rest (a.put o.dst (.tuple #[.bool true, .string f.n, .slice A f.b.length c])) w') : wpList P ops Q (o :: rest) a w := by
  have K := string_keyed hk
  obtain ⟨ld, lr, es, left, cnt, rfl, rfl, hrg, hp, h5, h6⟩ := h
  refine wpList_plain hgd fun K' hK' => ?_
  unfold Oper.wp
  rcases hrg.next K o.type with ⟨h0, hl, hrun⟩ | ⟨key, v, kl, y, w', cnt', hkey, hlk, hv, hat, hrun, hrg', hlt, hgr, hsz, hen⟩
  · simp [execOp, ho, hit, hrun, Result.andThen]
    refine hK' _ _ (hDone ?_)
    match lr, h6 with
    | [], _ => rfl
    | p :: lr, h6 =>
      have := (h6 p.1.n).2 ⟨p, by simp, rfl⟩
      rw [hl] at this
      cases this
  · obtain ⟨s, rfl, rfl, hs⟩ : ∃ s : ByteArray, key = .string s ∧ kl = mkl s ∧ s.size ≤ maxLen := by
      cases key <;> simp [keyOf, hk, mapKey] at hkey
      obtain ⟨h1, rfl⟩ := hkey
      exact ⟨_, rfl, rfl, h1⟩
    obtain ⟨p, hpl, rfl⟩ := (h6 s).1 hlk
    have hu := ents_uq K hrg.owns hp
    obtain ⟨l1, l2, rfl⟩ := List.append_of_mem hpl
    have hpe : (l1 ++ p :: l2).Perm (p :: (l1 ++ l2)) := List.perm_middle
    have hpm : entF p ∈ es := hp.mem_iff.2 (List.mem_map.2 ⟨p, by simp, rfl⟩)
    have hy : y.1 = .held p.2 := by
      have hf : (es.find? fun q => q.1.sameKey (mkl p.1.n)) = some (entF p) := by
        have h1 := find_perm hp ((hp.pairwise_iff (fun {a b} h => fun e => h ⟨e.2, e.1⟩)).2 (uq_pair hu p.1.n))
        rw [h1]
        have h2 : ((ld ++ (l1 ++ p :: l2)).map entF).Perm ((p :: (ld ++ (l1 ++ l2))).map entF) := List.Perm.map _ ((hpe.append_left ld).trans List.perm_middle)
        rw [find_perm h2 (uq_pair hu p.1.n), List.map_cons, List.find?_cons]
        have : (entF p).1.sameKey (mkl p.1.n) = true := WideAt.sameKey_self (mkl_key _)
        rw [this]
      have h1 := hat (.held v)
      unfold DataW.atKey at h1
      dsimp only at h1
      rw [hf] at h1
      exact h1.symm
    obtain ⟨y1, y2⟩ := y
    obtain ⟨⟨A, n, c, rfl⟩, hd⟩ := heldR_inv hv
    dsimp only at hy
    rw [hy] at hd
    injection hd with hd
    have hrp := (h5 p (by simp)).1
    have hkp : ∀ x, x < w.heap.size → F x → F x ∧ w'.heap[x]? = w.heap[x]? := fun x hx hf => ⟨hf, hgr.block x hx (fun e => by injection e with e; subst e; exact hF hf)⟩
    have hrp' := hrp.keep hkp
    rw [hd] at hrp'
    obtain ⟨A', c', he⟩ := hrp'.shape
    injection he with e1 e2 e3
    subst e1 e2 e3
    simp [execOp, ho, hit, hrun, Result.andThen]
    have hml := hrg.left_eq
    have hml' := hrg'.left_eq
    refine hK' _ _ (hMore p.1 ((l1 ++ l2).map (·.1)) A c w' (hpe.map _) ⟨ld ++ [p], l1 ++ l2, es, fun z => left z && !z.sameKey (mkl p.1.n), cnt', by simp, rfl, ?_, ?_, fun q hq => ?_, fun z => ?_⟩ hrp' (by rw [hml, hml']; exact hlt) hgr hsz hen)
    · have e1 : (ld ++ (l1 ++ p :: l2)).length = (ld ++ [p] ++ (l1 ++ l2)).length := by simp; omega
      rw [← e1]
      exact hrg'
    · refine hp.trans (List.Perm.map _ ?_)
      rw [List.append_assoc]
      exact (hpe.append_left ld)
    · have hq' : q ∈ ld ++ (l1 ++ p :: l2) := by simp at hq ⊢; rcases hq with h | h | h | h <;> simp [h]
      exact ⟨(h5 q hq').1.keep hkp, (h5 q hq').2⟩
    · show (left (mkl z) && !(mkl z).sameKey (mkl p.1.n)) = true ↔ _
      rw [mkl_same, Bool.and_eq_true, h6 z]
      constructor
      · rintro ⟨⟨q, hq, rfl⟩, hne⟩
        have hne : ¬ q.1.n = p.1.n := by simpa using hne
        refine ⟨q, ?_, rfl⟩
        simp at hq ⊢
        rcases hq with h | rfl | h
        · exact .inl h
        · exact absurd rfl hne
        · exact .inr h
      · rintro ⟨q, hq, rfl⟩
        refine ⟨⟨q, by simp at hq ⊢; rcases hq with h | h <;> simp [h], rfl⟩, ?_⟩
        have hu2 : ((p :: (ld ++ (l1 ++ l2))).map fun p => p.1.n).Nodup := (((hpe.append_left ld).trans List.perm_middle).map _).nodup_iff.1 hu
        rw [List.map_cons, List.nodup_cons] at hu2
        have : ¬ q.1.n = p.1.n := fun e => hu2.1 (List.mem_map.2 ⟨q, by simp at hq ⊢; rcases hq with h | h <;> simp [h], e⟩)
        simp [this]
end
end Go.V
/- MpS: maps by keys of any kind (structs among them) whose elements read by any relation: XMP's laws with a bundle in the place of names and bytes. No project text. -/
namespace Go.V
open Go.RowKit Go.Maps Go.ChangeShapes Go.WideShapes Go.ChangeMaps
/-- how keys stand in a map, and how its elements read -/
structure MK (P : Program) (k : TypeId) (κ β : Type) where
  kv : κ → Value
  kl : κ → Lit
  V : World → (Nat → Prop) → Value → β → Prop
  law : Keyed P k
  ko : ∀ x, keyOf P k (kv x) = some (kl x)
  inv : ∀ {v l}, keyOf P k v = some l → ∃ x, v = kv x
  kvi : ∀ {x y}, kv x = kv y → x = y
  keep : ∀ {w w' : World} {F F' : Nat → Prop} {v : Value} {d : β}, V w F v d → (∀ x, x < w.heap.size → F x → F' x ∧ w'.heap[x]? = w.heap[x]?) → V w' F' v d
variable {P : Program} {k : TypeId} {κ β : Type} [DecidableEq κ] {T : MK P k κ β}
omit [DecidableEq κ] in
theorem MK.inj {s t : κ} (h : T.kl s = T.kl t) : s = t := T.kvi (T.law.inj (T.ko s) (by rw [h]; exact T.ko t))
omit [DecidableEq κ] in
theorem MK.key (s : κ) : WideAt.IsKeyLit (T.kl s) := T.law.key (T.ko s)
theorem MK.same (s t : κ) : (T.kl s).sameKey (T.kl t) = decide (s = t) := by
  by_cases h : s = t
  · subst h; rw [decide_eq_true rfl]; exact WideAt.sameKey_self (MK.key s)
  · rw [decide_eq_false h]
    cases hs : (T.kl s).sameKey (T.kl t) with
    | false => rfl
    | true => exact absurd (MK.inj (WideAt.sameKey_eq hs)) h
/-- how an element reads: as itself -/
def heldA (v : Value) : Option (DataW Value × List MemPlace) := some (.held v, [])
theorem heldA_inv {v : Value} {d : DataW Value} {ps : List MemPlace} (h : heldA v = some (d, ps)) : d = .held v := by
  unfold heldA at h
  injection h with h
  injection h with h1 h2
  exact h1.symm
def entS (T : MK P k κ β) (p : (κ × β) × Value) : Lit × DataW Value := (T.kl p.1.1, .held p.2)
def findS (L : List (κ × β)) (s : κ) : Option β := (L.find? fun p => decide (p.1 = s)).map (·.2)
def woS (L : List (κ × β)) (s : κ) : List (κ × β) := L.filter fun p => decide (p.1 ≠ s)
theorem findS_none {s : κ} {L : List (κ × β)} (h : findS L s = none) : ∀ p ∈ L, p.1 ≠ s := by
  intro p hp e
  unfold findS at h
  rw [Option.map_eq_none_iff, List.find?_eq_none] at h
  exact h p hp (decide_eq_true e)
/-- block b is a map that holds L -/
def MpS (T : MK P k κ β) (w : World) (F : Nat → Prop) (b : Nat) (L : List (κ × β)) : Prop :=
  ∃ (l : List ((κ × β) × Value)) (es : List (Lit × DataW Value)), l.map (·.1) = L ∧ w.ownsMap P k heldA b l.length (.map es) ∧ es.Perm (l.map (entS T)) ∧ ∀ p ∈ l, T.V w F p.2 p.1.2
variable {w : World} {F : Nat → Prop} {b : Nat} {L : List (κ × β)}
omit [DecidableEq κ] in
theorem MpS.lt (h : MpS T w F b L) : b < w.heap.size := by
  obtain ⟨l, es, _, ho, _⟩ := h
  exact ho.lt
omit [DecidableEq κ] in
theorem MpS.keep {w' : World} {F' : Nat → Prop} (h : MpS T w F b L) (hb : w'.heap[b]? = w.heap[b]?) (hF : ∀ x, x < w.heap.size → F x → F' x ∧ w'.heap[x]? = w.heap[x]?) : MpS T w' F' b L := by
  obtain ⟨l, es, h1, ⟨es0, clock, h2, h3⟩, h4, h5⟩ := h
  exact ⟨l, es, h1, ⟨es0, clock, hb.trans h2, h3⟩, h4, fun p hp => T.keep (h5 p hp) hF⟩
omit [DecidableEq κ] in
theorem MpS.below {w' : World} (h : MpS T w F b L) (hB : Below w.heap.size w w') : MpS T w' F b L :=
  h.keep (hB.block b h.lt) (fun x hx hF => ⟨hF, hB.block x hx⟩)
omit [DecidableEq κ] in
theorem MpS.weak {F' : Nat → Prop} (h : MpS T w F b L) (hF : ∀ x, x < w.heap.size → F x → F' x) : MpS T w F' b L :=
  h.keep rfl (fun x hx h => ⟨hF x hx h, rfl⟩)
omit [DecidableEq κ] in
theorem entsS_uq {n : Nat} {l : List ((κ × β) × Value)} {es : List (Lit × DataW Value)} (ho : w.ownsMap P k heldA b n (.map es)) (hp : es.Perm (l.map (entS T))) : (l.map fun p => p.1.1).Nodup := by
  obtain ⟨es', he, h2, _⟩ := ho.entries T.law
  cases he
  have h3 := (hp.pairwise_iff (fun {a b} (h : a.1 ≠ b.1) => h.symm)).1 h2
  rw [List.pairwise_map] at h3
  rw [List.Nodup, List.pairwise_map]
  exact h3.imp (fun h e => h (by unfold entS; rw [e]))
omit [DecidableEq κ] in
theorem MpS.uq (h : MpS T w F b L) : (L.map (·.1)).Nodup := by
  obtain ⟨l, es, rfl, ho, hp, _⟩ := h
  have := entsS_uq ho hp
  rwa [List.map_map]
omit [DecidableEq κ] in
theorem MpS.perm {L' : List (κ × β)} (h : MpS T w F b L) (hL : L.Perm L') : MpS T w F b L' := by
  obtain ⟨l, es, rfl, ho, hp, h5⟩ := h
  obtain ⟨l', h1, h2⟩ : ∃ l' : List ((κ × β) × Value), l'.map (·.1) = L' ∧ l.Perm l' := perm_lift hL l rfl
  exact ⟨l', es, h1, by rw [← h2.length_eq]; exact ho, hp.trans (h2.map _), fun p hp => h5 p (h2.mem_iff.2 hp)⟩
omit [DecidableEq κ] in
theorem MpS.made : MpS T (w.alloc (.map #[] 0)) F w.heap.size [] :=
  ⟨[], [], rfl, World.ownsMap_made _ _ _ _, .refl _, fun p hp => by cases hp⟩
/-- what is found at a key -/
theorem entS_find (s : κ) : ∀ (l : List ((κ × β) × Value)), ((l.map (entS T)).find? fun q => q.1.sameKey (T.kl s)) = (l.find? fun p => decide (p.1.1 = s)).map (entS T)
  | [] => rfl
  | p :: l => by
    rw [List.map_cons, List.find?_cons, List.find?_cons]
    have : (entS T p).1.sameKey (T.kl s) = decide (p.1.1 = s) := MK.same _ _
    rw [this]
    by_cases h : p.1.1 = s
    · rw [decide_eq_true h]; rfl
    · rw [decide_eq_false h]; exact entS_find s l
theorem findS_map (s : κ) (l : List ((κ × β) × Value)) : findS (l.map (·.1)) s = (l.find? fun p => decide (p.1.1 = s)).map fun p => p.1.2 := by
  unfold findS
  rw [List.find?_map]
  show ((l.find? fun p => decide (p.1.1 = s)).map (·.1)).map (·.2) = _
  cases l.find? fun p => decide (p.1.1 = s) <;> rfl
theorem uqS_pair {l : List ((κ × β) × Value)} (h : (l.map fun p => p.1.1).Nodup) (s : κ) : (l.map (entS T)).Pairwise fun x y => ¬ (x.1.sameKey (T.kl s) = true ∧ y.1.sameKey (T.kl s) = true) := by
  rw [List.Nodup, List.pairwise_map] at h
  rw [List.pairwise_map]
  refine h.imp (fun {p q} hne hh => hne ?_)
  have h1 : decide (p.1.1 = s) = true := by rw [← MK.same (T := T)]; exact hh.1
  have h2 : decide (q.1.1 = s) = true := by rw [← MK.same (T := T)]; exact hh.2
  rw [of_decide_eq_true h1, of_decide_eq_true h2]
/-- the element at a key -/
theorem MpS.find (h : MpS T w F b L) (s : κ) : ∃ (l : List ((κ × β) × Value)) (es : List (Lit × DataW Value)), w.ownsMap P k heldA b l.length (.map es) ∧
    ((findS L s = none ∧ Maps.has (.map es) (T.kl s) = false ∧ ∀ z : DataW Value, (DataW.map es).atKey (T.kl s) z = z) ∨
     ∃ c v, findS L s = some c ∧ T.V w F v c ∧ Maps.has (.map es) (T.kl s) = true ∧ ∀ z : DataW Value, (DataW.map es).atKey (T.kl s) z = .held v) := by
  obtain ⟨l, es, rfl, ho, hp, h5⟩ := h
  refine ⟨l, es, ho, ?_⟩
  have hu := entsS_uq ho hp
  have hf : (es.find? fun q => q.1.sameKey (T.kl s)) = (l.find? fun p => decide (p.1.1 = s)).map (entS T) := by
    rw [← entS_find]
    exact find_perm hp ((hp.pairwise_iff (fun {a b} h => fun e => h ⟨e.2, e.1⟩)).2 (uqS_pair hu s))
  have hat : ∀ z : DataW Value, (DataW.map es).atKey (T.kl s) z = match (l.find? fun p => decide (p.1.1 = s)) with | some p => .held p.2 | none => z := fun z => by
    unfold DataW.atKey
    dsimp only
    rw [hf]
    cases l.find? fun p => decide (p.1.1 = s) <;> rfl
  have hha : Maps.has (.map es) (T.kl s) = (l.find? fun p => decide (p.1.1 = s)).isSome := by
    rw [Maps.has_eq, any_find, hf]
    cases l.find? fun p => decide (p.1.1 = s) <;> rfl
  rw [findS_map]
  cases hq : l.find? fun p => decide (p.1.1 = s) with
  | none =>
    rw [hq] at hha
    exact .inl ⟨rfl, hha, fun z => by rw [hat, hq]⟩
  | some p =>
    rw [hq] at hha
    exact .inr ⟨p.1.2, p.2, rfl, h5 p (List.mem_of_find?_eq_some hq), hha, fun z => by rw [hat, hq]⟩
section
variable {ops : Array Oper} {rest : List Oper} {o : Oper} {a : Act} {Q : Exit → Act → World → Prop}
/-- 'v, ok := m[s]' -/
theorem wp_lookS (t e : TypeId) (m x : Operand) (hgd : o.guard = none) (ho : o.op = .lookup t m x true) (ht : P.underlying t = some (.map k e)) {z : Value} (hz : (zeroValue e).run P w = .ok z w)
    (hm : a.eval m = .map (some b)) (h : MpS T w F b L) {s : κ} (hx : a.eval x = T.kv s)
    (hN : findS L s = none → wpList P ops Q rest (a.put o.dst (.tuple #[z, .bool false])) w)
    (hY : ∀ c v, findS L s = some c → T.V w F v c → wpList P ops Q rest (a.put o.dst (.tuple #[v, .bool true])) w) : wpList P ops Q (o :: rest) a w := by
  have K := T.law
  obtain ⟨l, es, hown, hf⟩ := h.find s
  refine wpList_lookup_own_ok w hgd m x t ho k e K ht heldA hz (.held z) [] rfl b l.length (.map es) hm hown (T.kv s) (T.kl s) hx (T.ko s) (fun v ps hv => ?_)
  have hd := heldA_inv hv
  rcases hf with ⟨h1, h2, h3⟩ | ⟨c, u, h1, h2, h3, h4⟩
  · rw [h3] at hd
    injection hd with hd
    subst hd
    rw [h2]
    exact hN h1
  · rw [h4] at hd
    injection hd with hd
    subst hd
    rw [h3]
    exact hY c u h1 h2
/-- 'm[s]' -/
theorem wp_look1S (t e : TypeId) (m x : Operand) (hgd : o.guard = none) (ho : o.op = .lookup t m x false) (ht : P.underlying t = some (.map k e)) {z : Value} (hz : (zeroValue e).run P w = .ok z w)
    (hm : a.eval m = .map (some b)) (h : MpS T w F b L) {s : κ} (hx : a.eval x = T.kv s)
    (hN : findS L s = none → wpList P ops Q rest (a.put o.dst z) w)
    (hY : ∀ c v, findS L s = some c → T.V w F v c → wpList P ops Q rest (a.put o.dst v) w) : wpList P ops Q (o :: rest) a w := by
  have K := T.law
  obtain ⟨l, es, hown, hf⟩ := h.find s
  refine wpList_plain hgd fun K' hK' => ?_
  obtain ⟨v, ps, hrun, hv⟩ := hown.lookup K ht hz (zd := .held z) (zp := []) rfl (T.ko s)
  unfold Oper.wp
  simp [execOp, ho, hm, hx, hrun, Result.andThen]
  refine hK' _ _ ?_
  have hd := heldA_inv hv
  rcases hf with ⟨h1, h2, h3⟩ | ⟨c, u, h1, h2, h3, h4⟩
  · rw [h3 (.held z)] at hd
    injection hd with hd
    subst hd
    exact hN h1
  · rw [h4 (.held z)] at hd
    injection hd with hd
    subst hd
    exact hY c u h1 h2
omit [DecidableEq κ] in
/-- 'len(m)' -/
theorem wp_lenS (t e : TypeId) (m : Operand) (hgd : o.guard = none) (ho : o.op = .call { callee := .builtin .len, args := #[m], argTypes := #[t] }) (ht : P.underlying t = some (.map k e))
    (hm : a.eval m = .map (some b)) (h : MpS T w F b L) (hK : wpList P ops Q rest (a.put o.dst (.int .i64 (L.length : Int))) w) : wpList P ops Q (o :: rest) a w := by
  obtain ⟨l, es, rfl, hown, hp, _⟩ := h
  refine wpList_len_own w hgd m t ho k e ht heldA b l.length (.map es) hm hown ?_
  have e1 : Maps.size (DataW.map es) = (l.map (·.1)).length := by rw [Maps.size_eq, hp.length_eq]; simp
  rw [e1]
  exact hK
end
theorem woS_map (l : List ((κ × β) × Value)) (s : κ) : woS (l.map (·.1)) s = (l.filter fun p => decide (p.1.1 ≠ s)).map (·.1) := by
  unfold woS
  rw [List.filter_map]
  rfl
theorem entS_filter (s : κ) (l : List ((κ × β) × Value)) : (l.map (entS T)).filter (fun q => !q.1.sameKey (T.kl s)) = (l.filter fun p => decide (p.1.1 ≠ s)).map (entS T) := by
  rw [List.filter_map]
  congr 1
  refine List.filter_congr (fun p _ => ?_)
  show (!(T.kl p.1.1).sameKey (T.kl s)) = _
  rw [MK.same]
  by_cases h : p.1.1 = s <;> simp [h]
/-- the datum behind a store -/
theorem MpS.put_of {w' : World} {F' : Nat → Prop} {n : Nat} {l : List ((κ × β) × Value)} {es : List (Lit × DataW Value)} {s : κ} {d : β} {v : Value} (h1 : l.map (·.1) = L) (hp : es.Perm (l.map (entS T))) (h5 : ∀ p ∈ l, T.V w' F' p.2 p.1.2)
    (hv : T.V w' F' v d) (ho : w'.ownsMap P k heldA b n ((DataW.map es).put (T.kl s) (.held v))) : MpS T w' F' b ((s, d) :: woS L s) := by
  subst h1
  have hpp : (DataW.insert (T.kl s, DataW.held v) (es.filter fun p => !p.1.sameKey (T.kl s))).Perm ((((s, d), v) :: l.filter fun p => decide (p.1.1 ≠ s)).map (entS T)) := by
    refine (insert_perm _ _).trans ?_
    rw [List.map_cons, ← entS_filter]
    exact (hp.filter _).cons _
  refine ⟨((s, d), v) :: l.filter fun p => decide (p.1.1 ≠ s), _, by rw [List.map_cons, woS_map], ?_, hpp, fun p hp => ?_⟩
  · have := own_tight ho
    have e1 : Maps.size ((DataW.map es).put (T.kl s) (.held v)) = (((s, d), v) :: l.filter fun p => decide (p.1.1 ≠ s)).length := by
      show (DataW.insert (T.kl s, DataW.held v) (es.filter fun p => !p.1.sameKey (T.kl s))).length = _
      rw [hpp.length_eq, List.length_map]
    rw [e1] at this
    exact this
  · rcases List.mem_cons.1 hp with rfl | hp
    · exact hv
    · exact h5 p (List.mem_filter.1 hp).1
theorem MpS.del_of {w' : World} {F' : Nat → Prop} {n : Nat} {l : List ((κ × β) × Value)} {es : List (Lit × DataW Value)} {s : κ} (h1 : l.map (·.1) = L) (hp : es.Perm (l.map (entS T))) (h5 : ∀ p ∈ l, T.V w' F' p.2 p.1.2)
    (ho : w'.ownsMap P k heldA b n ((DataW.map es).del (T.kl s))) : MpS T w' F' b (woS L s) := by
  subst h1
  have hpp : (es.filter fun p => !p.1.sameKey (T.kl s)).Perm ((l.filter fun p => decide (p.1.1 ≠ s)).map (entS T)) := by
    rw [← entS_filter]
    exact hp.filter _
  refine ⟨l.filter fun p => decide (p.1.1 ≠ s), _, (woS_map l s).symm, ?_, hpp, fun p hp => h5 p (List.mem_filter.1 hp).1⟩
  have := own_tight ho
  have e1 : Maps.size ((DataW.map es).del (T.kl s)) = (l.filter fun p => decide (p.1.1 ≠ s)).length := by
    show (es.filter fun p => !p.1.sameKey (T.kl s)).length = _
    rw [hpp.length_eq, List.length_map]
  rw [e1] at this
  exact this
section
variable {ops : Array Oper} {rest : List Oper} {o : Oper} {a : Act} {Q : Exit → Act → World → Prop}
/-- 'm[s] = v' -/
theorem wp_putS (t e : TypeId) (m x y : Operand) (hgd : o.guard = none) (ho : o.op = .mapUpdate t m x y) (ht : P.underlying t = some (.map k e))
    (hm : a.eval m = .map (some b)) (h : MpS T w F b L) (hL : L.length < maxLen) {s : κ} (hx : a.eval x = T.kv s) {v : Value} (hy : a.eval y = v) {d : β} (hv : T.V w F v d) (hF : ¬ F b)
    (hK : ∀ w', MpS T w' F b ((s, d) :: woS L s) → w.grownBy w' (some b) → w.heap.size = w'.heap.size → wpList P ops Q rest (a.put o.dst undef) w') : wpList P ops Q (o :: rest) a w := by
  have K := T.law
  obtain ⟨l, es, h1, hown, hp, h5⟩ := h
  have hl : l.length < maxLen := by rw [← h1] at hL; simpa using hL
  refine wpList_mapUpdate_in w hgd m x y t ho k e K ht heldA b l.length (.map es) hm hown hl (T.kv s) v (T.kl s) hx hy (T.ko s) (.held v) [] rfl (fun w' ho' ht' => ?_)
  have hg := ht'.grown
  have hkp : ∀ x, x < w.heap.size → F x → F x ∧ w'.heap[x]? = w.heap[x]? := fun x hx hf => ⟨hf, hg.block x hx (fun e => by injection e with e; subst e; exact hF hf)⟩
  refine hK w' (MpS.put_of h1 hp (fun p hp => T.keep (h5 p hp) hkp) (T.keep hv hkp) ho') hg ?_
  obtain ⟨es1, clock, es2, clock2, _, rfl⟩ := ht'
  simp [ChangeMaps.setBlock]
/-- 'delete(m, s)' -/
theorem wp_delS (t e : TypeId) (m x : Operand) (hgd : o.guard = none) (ho : o.op = .call { callee := .builtin .delete, args := #[m, x], argTypes := #[t, k] }) (ht : P.underlying t = some (.map k e))
    (hm : a.eval m = .map (some b)) (h : MpS T w F b L) {s : κ} (hx : a.eval x = T.kv s) (hF : ¬ F b)
    (hK : ∀ w', MpS T w' F b (woS L s) → w.grownBy w' (some b) → w.heap.size = w'.heap.size → wpList P ops Q rest (a.put o.dst (.tuple #[])) w') : wpList P ops Q (o :: rest) a w := by
  have K := T.law
  obtain ⟨l, es, h1, hown, hp, h5⟩ := h
  refine wpList_delete_own w hgd m x t k ho e K ht heldA b l.length (.map es) hm hown (T.kv s) (T.kl s) hx (T.ko s) (fun w' ho' ht' => ?_)
  have hg := ht'.grown
  have hkp : ∀ x, x < w.heap.size → F x → F x ∧ w'.heap[x]? = w.heap[x]? := fun x hx hf => ⟨hf, hg.block x hx (fun e => by injection e with e; subst e; exact hF hf)⟩
  refine hK w' (MpS.del_of h1 hp (fun p hp => T.keep (h5 p hp) hkp) ho') hg ?_
  obtain ⟨es1, clock, es2, clock2, _, rfl⟩ := ht'
  simp [ChangeMaps.setBlock]
end
/-- a range over the map, by iterator r: dn have come, rs are still to come -/
def RS (T : MK P k κ β) (w : World) (F : Nat → Prop) (b r : Nat) (dn rs : List (κ × β)) : Prop :=
  ∃ (ld lr : List ((κ × β) × Value)) (es : List (Lit × DataW Value)) (left : Lit → Bool) (cnt : Nat), ld.map (·.1) = dn ∧ lr.map (·.1) = rs ∧ w.ranges P k heldA b r (ld ++ lr).length (.map es) left cnt ∧ es.Perm ((ld ++ lr).map (entS T)) ∧
    (∀ p ∈ ld ++ lr, T.V w F p.2 p.1.2) ∧ ∀ s, left (T.kl s) = true ↔ ∃ p ∈ lr, p.1.1 = s
omit [DecidableEq κ] in
theorem RS.owns {r : Nat} {dn rs : List (κ × β)} (h : RS T w F b r dn rs) : MpS T w F b (dn ++ rs) := by
  obtain ⟨ld, lr, es, left, cnt, rfl, rfl, h3, h4, h5, _⟩ := h
  exact ⟨ld ++ lr, es, by rw [List.map_append], h3.owns, h4, h5⟩
omit [DecidableEq κ] in
theorem RS.keep {w' : World} {F' : Nat → Prop} {r : Nat} {dn rs : List (κ × β)} (h : RS T w F b r dn rs) (hb : w'.heap[b]? = w.heap[b]?) (hr : w'.heap[r]? = w.heap[r]?) (hF : ∀ x, x < w.heap.size → F x → F' x ∧ w'.heap[x]? = w.heap[x]?) : RS T w' F' b r dn rs ∧ w'.rangeLeft b r = w.rangeLeft b r := by
  obtain ⟨ld, lr, es, left, cnt, h1, h2, ⟨es0, clock, since, seen, c0, q1, q2, q3, q4, q5, q6⟩, h4, h5, h6⟩ := h
  exact ⟨⟨ld, lr, es, left, cnt, h1, h2, ⟨es0, clock, since, seen, c0, hb.trans q1, q2, q3, q4, hr.trans q5, q6⟩, h4, fun p hp => T.keep (h5 p hp) hF, h6⟩, by unfold World.rangeLeft; rw [hb, hr]⟩
section
variable {ops : Array Oper} {rest : List Oper} {o : Oper} {a : Act} {Q : Exit → Act → World → Prop}
/-- 'range m' -/
theorem wp_rangeS (t e : TypeId) (m : Operand) (hgd : o.guard = none) (ho : o.op = .range t m) (ht : P.underlying t = some (.map k e)) (hm : a.eval m = .map (some b)) (h : MpS T w F b L)
    (hK : ∀ w', RS T w' F b w.heap.size [] L → w.grownBy w' none → w'.heap.size = w.heap.size + 1 → wpList P ops Q rest (a.put o.dst (.pointer (some ⟨w.heap.size, 0, none⟩))) w') : wpList P ops Q (o :: rest) a w := by
  have K := T.law
  obtain ⟨l, es, rfl, hown, hp, h5⟩ := h
  refine wpList_range_own w hgd m t ho k e K ht heldA b l.length (.map es) hm hown (fun w' hr hg hs => hK w' ?_ hg hs)
  have hkp : ∀ x, x < w.heap.size → F x → F x ∧ w'.heap[x]? = w.heap[x]? := fun x hx hf => ⟨hf, hg.block x hx (by simp)⟩
  refine ⟨[], l, es, _, _, rfl, rfl, hr, by rw [List.nil_append]; exact hp, fun p hp => ?_, fun s => ?_⟩
  · rw [List.nil_append] at hp
    exact T.keep (h5 p hp) hkp
  · rw [Maps.has_eq, List.any_eq_true]
    constructor
    · rintro ⟨q, hq, hs⟩
      obtain ⟨p, hp', rfl⟩ := List.mem_map.1 (hp.mem_iff.1 hq)
      have : decide (p.1.1 = s) = true := by rw [← MK.same (T := T)]; exact hs
      exact ⟨p, hp', of_decide_eq_true this⟩
    · rintro ⟨p, hp', rfl⟩
      exact ⟨entS T p, hp.mem_iff.2 (List.mem_map.2 ⟨p, hp', rfl⟩), WideAt.sameKey_self (MK.key _)⟩
/-- the step -/
theorem wp_nextS (it : Operand) (hgd : o.guard = none) (ho : o.op = .next it false) {r : Nat} {dn rs : List (κ × β)} (hit : a.eval it = .pointer (some ⟨r, 0, none⟩)) (h : RS T w F b r dn rs) (hF : ¬ F r)
    (hDone : rs = [] → wpList P ops Q rest (a.put o.dst (.tuple #[.bool false])) w)
    (hMore : ∀ (f : κ × β) rs' v w', rs.Perm (f :: rs') → RS T w' F b r (dn ++ [f]) rs' → T.V w' F v f.2 → w'.rangeLeft b r < w.rangeLeft b r → w.grownBy w' (some r) → w'.heap.size = w.heap.size →
      (Instr.entry (.pointer (some ⟨r, 0, none⟩))).run P w' = .ok (.tuple #[T.kv f.1, v]) w' → wpList P ops Q rest (a.put o.dst (.tuple #[.bool true, T.kv f.1, v])) w') : wpList P ops Q (o :: rest) a w := by
  have K := T.law
  obtain ⟨ld, lr, es, left, cnt, rfl, rfl, hrg, hp, h5, h6⟩ := h
  refine wpList_plain hgd fun K' hK' => ?_
  unfold Oper.wp
  rcases hrg.next K o.type with ⟨h0, hl, hrun⟩ | ⟨key, v, kl, y, w', cnt', hkey, hlk, hv, hat, hrun, hrg', hlt, hgr, hsz, hen⟩
  · simp [execOp, ho, hit, hrun, Result.andThen]
    refine hK' _ _ (hDone ?_)
    match lr, h6 with
    | [], _ => rfl
    | p :: lr, h6 =>
      have := (h6 p.1.1).2 ⟨p, by simp, rfl⟩
      rw [hl] at this
      cases this
  · obtain ⟨s, rfl⟩ := T.inv hkey
    obtain rfl : T.kl s = kl := Option.some.inj ((T.ko s).symm.trans hkey)
    obtain ⟨p, hpl, rfl⟩ := (h6 s).1 hlk
    have hu := entsS_uq hrg.owns hp
    obtain ⟨l1, l2, rfl⟩ := List.append_of_mem hpl
    have hpe : (l1 ++ p :: l2).Perm (p :: (l1 ++ l2)) := List.perm_middle
    have hpm : entS T p ∈ es := hp.mem_iff.2 (List.mem_map.2 ⟨p, by simp, rfl⟩)
    have hy : y.1 = .held p.2 := by
      have hf : (es.find? fun q => q.1.sameKey (T.kl p.1.1)) = some (entS T p) := by
        have h1 := find_perm hp ((hp.pairwise_iff (fun {a b} h => fun e => h ⟨e.2, e.1⟩)).2 (uqS_pair hu p.1.1))
        rw [h1]
        have h2 : ((ld ++ (l1 ++ p :: l2)).map (entS T)).Perm ((p :: (ld ++ (l1 ++ l2))).map (entS T)) := List.Perm.map _ ((hpe.append_left ld).trans List.perm_middle)
        rw [find_perm h2 (uqS_pair hu p.1.1), List.map_cons, List.find?_cons]
        have : (entS T p).1.sameKey (T.kl p.1.1) = true := WideAt.sameKey_self (MK.key _)
        rw [this]
      have h1 := hat (.held v)
      unfold DataW.atKey at h1
      dsimp only at h1
      rw [hf] at h1
      exact h1.symm
    obtain ⟨y1, y2⟩ := y
    have hd := heldA_inv hv
    dsimp only at hy
    rw [hy] at hd
    injection hd with hd
    have hrp := h5 p (by simp)
    have hkp : ∀ x, x < w.heap.size → F x → F x ∧ w'.heap[x]? = w.heap[x]? := fun x hx hf => ⟨hf, hgr.block x hx (fun e => by injection e with e; subst e; exact hF hf)⟩
    have hrp' := T.keep hrp hkp
    rw [hd] at hrp'
    simp [execOp, ho, hit, hrun, Result.andThen]
    have hml := hrg.left_eq
    have hml' := hrg'.left_eq
    refine hK' _ _ (hMore p.1 ((l1 ++ l2).map (·.1)) v w' (hpe.map (·.1)) ⟨ld ++ [p], l1 ++ l2, es, fun z => left z && !z.sameKey (T.kl p.1.1), cnt', by simp, rfl, ?_, ?_, fun q hq => ?_, fun z => ?_⟩ hrp' (by rw [hml, hml']; exact hlt) hgr hsz hen)
    · have e1 : (ld ++ (l1 ++ p :: l2)).length = (ld ++ [p] ++ (l1 ++ l2)).length := by simp; omega
      rw [← e1]
      exact hrg'
    · refine hp.trans (List.Perm.map _ ?_)
      rw [List.append_assoc]
      exact (hpe.append_left ld)
    · have hq' : q ∈ ld ++ (l1 ++ p :: l2) := by simp at hq ⊢; rcases hq with h | h | h | h <;> simp [h]
      exact T.keep (h5 q hq') hkp
    · show (left (T.kl z) && !(T.kl z).sameKey (T.kl p.1.1)) = true ↔ _
      rw [MK.same, Bool.and_eq_true, h6 z]
      constructor
      · rintro ⟨⟨q, hq, rfl⟩, hne⟩
        have hne : ¬ q.1.1 = p.1.1 := by simpa using hne
        refine ⟨q, ?_, rfl⟩
        simp at hq ⊢
        rcases hq with h | rfl | h
        · exact .inl h
        · exact absurd rfl hne
        · exact .inr h
      · rintro ⟨q, hq, rfl⟩
        refine ⟨⟨q, by simp at hq ⊢; rcases hq with h | h <;> simp [h], rfl⟩, ?_⟩
        have hu2 : ((p :: (ld ++ (l1 ++ l2))).map fun p => p.1.1).Nodup := (((hpe.append_left ld).trans List.perm_middle).map _).nodup_iff.1 hu
        rw [List.map_cons, List.nodup_cons] at hu2
        have : ¬ q.1.1 = p.1.1 := fun e => hu2.1 (List.mem_map.2 ⟨q, by simp at hq ⊢; rcases hq with h | h <;> simp [h], e⟩)
        simp [this]
end
end Go.V
/- MT: keys that are a struct of two ints. No project text. -/
namespace Go.V
open Go.RowKit Go.Maps Go.ChangeShapes Go.WideShapes Go.ChangeMaps
/-- a pair of ints that an int holds -/
def K2 : Type := { p : Int × Int // (Lit.int .i64 p.1).wf = true ∧ (Lit.int .i64 p.2).wf = true }
instance : DecidableEq K2 := inferInstanceAs (DecidableEq { p : Int × Int // (Lit.int .i64 p.1).wf = true ∧ (Lit.int .i64 p.2).wf = true })
def K2.v (x : K2) : Value := .agg #[.int .i64 x.1.1, .int .i64 x.1.2]
def K2.l (x : K2) : Lit := .string (keyBytes [.int .i64 x.1.1, .int .i64 x.1.2])
theorem K2.vi {x y : K2} (h : x.v = y.v) : x = y := by
  unfold K2.v at h
  obtain ⟨⟨a, b⟩, _⟩ := x
  obtain ⟨⟨c, d⟩, _⟩ := y
  simp at h
  obtain ⟨rfl, rfl⟩ := h
  rfl
/-- k is a struct of two ints -/
structure TwoInts (P : Program) (k : TypeId) : Prop where
  fs : ∃ f g, P.underlying k = some (.struct #[f, g]) ∧ f.offset = 0 ∧ g.offset = 1 ∧ (f.name != "_") = true ∧ (g.name != "_") = true ∧
    P.underlying f.type = some (.int .i64) ∧ P.underlying g.type = some (.int .i64) ∧ P.cellsOf f.type = 1 ∧ P.cellsOf g.type = 1
  kt : P.keyType k = true
  two : P.cellsOf k = 2
  row : k < P.types.size
  laid : laidOutB P = true
  deep : P.keyTypeAt 2 k = true
variable {P : Program} {k : TypeId}
theorem TwoInts.law (h : TwoInts P k) : Keyed P k := by
  obtain ⟨f, g, h1, _⟩ := h.fs
  exact Keyed.of_law (deep_law_laid h.laid (m := 2) (by omega) h.row h.deep (by rw [h1]))
theorem TwoInts.ko (h : TwoInts P k) (x : K2) : keyOf P k x.v = some x.l := by
  obtain ⟨f, g, h1, h2, h3, h4, h5, h6, h7, h8, h9⟩ := h.fs
  obtain ⟨n, hn⟩ : ∃ n, P.types.size = n + 1 := Nat.exists_eq_succ_of_ne_zero (fun e => absurd h.row (by rw [e]; exact Nat.not_lt_zero _))
  obtain ⟨⟨a, b⟩, ha, hb⟩ := x
  dsimp only at ha hb
  unfold keyOf
  rw [h1]
  dsimp only
  rw [h.kt, hn]
  simp [K2.v, K2.l, Value.formed, h1, h.two, Value.cells, Program.keyLits, h2, h3, h6, h7, h8, h9, ha, hb]
  exact ⟨by simpa using h4, by simpa using h5⟩
theorem TwoInts.inv (h : TwoInts P k) {v : Value} {l : Lit} (hv : keyOf P k v = some l) : ∃ x : K2, v = x.v := by
  obtain ⟨f, g, h1, h2, h3, h4, h5, h6, h7, h8, h9⟩ := h.fs
  obtain ⟨n, hn⟩ : ∃ n, P.types.size = n + 1 := Nat.exists_eq_succ_of_ne_zero (fun e => absurd h.row (by rw [e]; exact Nat.not_lt_zero _))
  unfold keyOf at hv
  rw [h1] at hv
  dsimp only at hv
  rw [h.kt, hn, Bool.true_and] at hv
  split at hv
  · rename_i hf
    cases v <;> simp [Value.formed, h1] at hf
    rename_i cs
    obtain ⟨cs⟩ := cs
    rw [h.two] at hf
    match cs, hf with
    | [c, d], _ =>
      simp [Value.cells, Program.keyLits, h1, h.two, h2, h3, h6, h7, h8, h9] at hv
      cases c <;> simp at hv
      obtain ⟨ls, ⟨_, hq⟩, _⟩ := hv
      rw [Option.bind_eq_some_iff] at hq
      obtain ⟨u, hu, hq⟩ := hq
      cases d <;> simp at hq
      split at hu
      · rename_i e1
        obtain ⟨rfl, ha⟩ := e1
        rw [Option.bind_eq_some_iff] at hq
        obtain ⟨u2, hu2, _⟩ := hq
        rw [Option.bind_eq_some_iff] at hu2
        obtain ⟨u3, hu3, _⟩ := hu2
        split at hu3
        · rename_i e2
          obtain ⟨rfl, hb⟩ := e2
          exact ⟨⟨(_, _), ha, hb⟩, rfl⟩
        · cases hu3
      · cases hu
  · cases hv
/-- maps by such keys -/
def TwoInts.mk' (h : TwoInts P k) {β : Type} (V : World → (Nat → Prop) → Value → β → Prop)
    (keep : ∀ {w w' : World} {F F' : Nat → Prop} {v : Value} {d : β}, V w F v d → (∀ x, x < w.heap.size → F x → F' x ∧ w'.heap[x]? = w.heap[x]?) → V w' F' v d) : MK P k K2 β :=
  ⟨K2.v, K2.l, V, h.law, h.ko, h.inv, K2.vi, keep⟩
/-- a key's cells -/
def K2.cs (x : K2) : List Value := [.int .i64 x.1.1, .int .i64 x.1.2]
theorem one_k2 (x : K2) : ∀ v ∈ x.cs, v.oneCell' = true := by
  intro v hv
  simp only [K2.cs, List.mem_cons, List.not_mem_nil, or_false] at hv
  rcases hv with rfl | rfl <;> rfl
def K2.rows (l : List K2) : List Value := l.flatMap K2.cs
instance : Inhabited K2 := ⟨⟨(0, 0), by decide, by decide⟩⟩
theorem k2_ext {x y : K2} (h1 : x.1.1 = y.1.1) (h2 : x.1.2 = y.1.2) : x = y := Subtype.ext (Prod.ext h1 h2)
theorem rows_at : ∀ (l : List K2) (j : Nat) (x : K2), l[j]? = some x → (K2.rows l)[2 * j]? = some (.int .i64 x.1.1) ∧ (K2.rows l)[2 * j + 1]? = some (.int .i64 x.1.2)
  | [], j, x, h => by simp at h
  | y :: l, 0, x, h => by simp at h; subst h; exact ⟨rfl, rfl⟩
  | y :: l, j + 1, x, h => by
    have := rows_at l j x (by simpa using h)
    have e : K2.rows (y :: l) = .int .i64 y.1.1 :: .int .i64 y.1.2 :: K2.rows l := rfl
    rw [e, show 2 * (j + 1) = 2 * j + 1 + 1 from by omega, List.getElem?_cons_succ, List.getElem?_cons_succ, show 2 * j + 1 + 1 + 1 = (2 * j + 1) + 1 + 1 from rfl, List.getElem?_cons_succ, List.getElem?_cons_succ]
    exact this
theorem rows_len : ∀ (l : List K2), (K2.rows l).length = l.length * 2
  | [] => rfl
  | y :: l => by
    have e : K2.rows (y :: l) = .int .i64 y.1.1 :: .int .i64 y.1.2 :: K2.rows l := rfl
    rw [e, List.length_cons, List.length_cons, rows_len l, List.length_cons]
    omega
end Go.V
/- MV: maps by keys of any kind: the laws inside a region that draws its order; delete while the map is ranged over; elements that are a struct. No project text. -/
namespace Go.V
open Go.RowKit Go.Maps Go.ChangeShapes Go.WideShapes Go.ChangeMaps
/-- an element that is a struct, as WD tells it -/
def WD.V {α : Type} {n : Nat} (T : WD α n) (w : World) (F : Nat → Prop) (v : Value) (a : α) : Prop := ∃ cs : List Value, v = .agg cs.toArray ∧ WdEl w F T a cs
theorem WD.V_keep {α : Type} {n : Nat} {T : WD α n} {w w' : World} {F F' : Nat → Prop} {v : Value} {a : α} (h : T.V w F v a) (hF : ∀ x, x < w.heap.size → F x → F' x ∧ w'.heap[x]? = w.heap[x]?) : T.V w' F' v a := by
  obtain ⟨cs, rfl, h1⟩ := h
  exact ⟨cs, rfl, h1.keep hF⟩
variable {P : Program} {k : TypeId} {κ β : Type} [DecidableEq κ] {T : MK P k κ β} {w : World} {F : Nat → Prop} {b : Nat} {L : List (κ × β)}
variable {ops : Array Oper} {rest : List Oper} {o : Oper} {a : Act} {Q : Exit → Act → World → Prop} {K : Act → World → Prop} {E : Prop}
/-- what 'm[s]' comes to -/
theorem MpS.run_look (h : MpS T w F b L) (t e : TypeId) (c : Bool) (ht : P.underlying t = some (.map k e)) {z : Value} (hz : (zeroValue e).run P w = .ok z w) (s : κ) :
    (findS L s = none ∧ (Instr.lookup t (.map (some b)) (T.kv s) c).run P w = .ok (if c then .tuple #[z, .bool false] else z) w) ∨
    ∃ d v, findS L s = some d ∧ T.V w F v d ∧ (Instr.lookup t (.map (some b)) (T.kv s) c).run P w = .ok (if c then .tuple #[v, .bool true] else v) w := by
  obtain ⟨l, es, hown, hf⟩ := h.find s
  have hkey := T.ko s
  cases c with
  | false =>
    obtain ⟨v, ps, hrun, hv⟩ := hown.lookup T.law ht hz (zd := .held z) (zp := []) rfl hkey
    have hd := heldA_inv hv
    rcases hf with ⟨h1, h2, h3⟩ | ⟨d, u, h1, h2, h3, h4⟩
    · rw [h3 (.held z)] at hd
      injection hd with hd
      subst hd
      exact .inl ⟨h1, hrun⟩
    · rw [h4 (.held z)] at hd
      injection hd with hd
      subst hd
      exact .inr ⟨d, _, h1, h2, hrun⟩
  | true =>
    obtain ⟨v, ps, hrun, hv⟩ := hown.look_ok T.law ht hz (zd := .held z) (zp := []) rfl hkey
    have hd := heldA_inv hv
    rcases hf with ⟨h1, h2, h3⟩ | ⟨d, u, h1, h2, h3, h4⟩
    · rw [h3 (.held z)] at hd
      injection hd with hd
      subst hd
      rw [h2] at hrun
      exact .inl ⟨h1, hrun⟩
    · rw [h4 (.held z)] at hd
      injection hd with hd
      subst hd
      rw [h3] at hrun
      exact .inr ⟨d, _, h1, h2, hrun⟩
/-- what 'm[s] = v' comes to -/
theorem MpS.run_put (h : MpS T w F b L) (t e : TypeId) (ht : P.underlying t = some (.map k e)) (hL : L.length < maxLen) (s : κ) {v : Value} {d : β} (hv : T.V w F v d) (hF : ¬ F b) :
    ∃ w', (Instr.mapUpdate t (.map (some b)) (T.kv s) v).run P w = .ok () w' ∧ MpS T w' F b ((s, d) :: woS L s) ∧ w.grownBy w' (some b) ∧ w.heap.size = w'.heap.size := by
  obtain ⟨l, es, h1, hown, hp, h5⟩ := h
  have hl : l.length < maxLen := by rw [← h1] at hL; simpa using hL
  obtain ⟨w', hrun, ho', ht'⟩ := hown.store (val := v) (d := .held v) (ps := []) T.law ht hl (T.ko s) rfl
  have hg := ht'.grown
  have hkp : ∀ x, x < w.heap.size → F x → F x ∧ w'.heap[x]? = w.heap[x]? := fun x hx hf => ⟨hf, hg.block x hx (fun e => by injection e with e; subst e; exact hF hf)⟩
  refine ⟨w', hrun, MpS.put_of h1 hp (fun p hp => T.keep (h5 p hp) hkp) (T.keep hv hkp) ho', hg, ?_⟩
  obtain ⟨es1, clock, es2, clock2, _, rfl⟩ := ht'
  simp [ChangeMaps.setBlock]
/-- what 'delete(m, s)' comes to -/
theorem MpS.run_del (h : MpS T w F b L) (t e : TypeId) (ht : P.underlying t = some (.map k e)) (s : κ) (hF : ¬ F b) (ty : TypeId) :
    ∃ w', (Builtin.delete_ #[t, k] ty #[.map (some b), T.kv s]).run P w = .ok (.tuple #[]) w' ∧ MpS T w' F b (woS L s) ∧ w.grownBy w' (some b) ∧ w.heap.size = w'.heap.size := by
  obtain ⟨l, es, h1, hown, hp, h5⟩ := h
  obtain ⟨w', hrun, ho', ht'⟩ := hown.drop T.law ht (T.ko s) ty
  have hg := ht'.grown
  have hkp : ∀ x, x < w.heap.size → F x → F x ∧ w'.heap[x]? = w.heap[x]? := fun x hx hf => ⟨hf, hg.block x hx (fun e => by injection e with e; subst e; exact hF hf)⟩
  refine ⟨w', hrun, MpS.del_of h1 hp (fun p hp => T.keep (h5 p hp) hkp) ho', hg, ?_⟩
  obtain ⟨es1, clock, es2, clock2, _, rfl⟩ := ht'
  simp [ChangeMaps.setBlock]
/-- 'v, ok := m[s]' and 'm[s]', in a region that draws its order -/
theorem step_lookS (t e : TypeId) (m x : Operand) (c : Bool) (hgd : o.guard = none) (ho : o.op = .lookup t m x c) (ht : P.underlying t = some (.map k e)) {z : Value} (hz : (zeroValue e).run P w = .ok z w)
    (hm : a.eval m = .map (some b)) (h : MpS T w F b L) {s : κ} (hx : a.eval x = T.kv s)
    (hN : findS L s = none → K (a.put o.dst (if c then .tuple #[z, .bool false] else z)) w)
    (hY : ∀ d v, findS L s = some d → T.V w F v d → K (a.put o.dst (if c then .tuple #[v, .bool true] else v)) w) : if Region.wanted o (yielded ops a.tmps) = true then Oper.wp P o a w K Q else E := by
  have hw : Region.wanted o (yielded ops a.tmps) = true := by simp [Region.wanted, hgd]
  rw [if_pos hw]
  rcases h.run_look t e c ht hz s with ⟨h1, hrun⟩ | ⟨d, v, h1, h2, hrun⟩
  · unfold Oper.wp execOp
    simp only [ho, hm, hx, Sem.run_bind, Sem.run_pure, hrun, Result.andThen_ok]
    exact hN h1
  · unfold Oper.wp execOp
    simp only [ho, hm, hx, Sem.run_bind, Sem.run_pure, hrun, Result.andThen_ok]
    exact hY d v h1 h2
/-- 'm[s] = v', in a region that draws its order -/
theorem step_putS (t e : TypeId) (m x y : Operand) (hgd : o.guard = none) (ho : o.op = .mapUpdate t m x y) (ht : P.underlying t = some (.map k e))
    (hm : a.eval m = .map (some b)) (h : MpS T w F b L) (hL : L.length < maxLen) {s : κ} (hx : a.eval x = T.kv s) {v : Value} (hy : a.eval y = v) {d : β} (hv : T.V w F v d) (hF : ¬ F b)
    (hK : ∀ w', MpS T w' F b ((s, d) :: woS L s) → w.grownBy w' (some b) → w.heap.size = w'.heap.size → K (a.put o.dst undef) w') : if Region.wanted o (yielded ops a.tmps) = true then Oper.wp P o a w K Q else E := by
  have hw : Region.wanted o (yielded ops a.tmps) = true := by simp [Region.wanted, hgd]
  rw [if_pos hw]
  obtain ⟨w', hrun, h1, h2, h3⟩ := h.run_put t e ht hL s hv hF
  unfold Oper.wp execOp
  simp only [ho, hm, hx, hy, Sem.run_bind, Sem.run_pure, hrun, Result.andThen_ok]
  exact hK w' h1 h2 h3
/-- 'delete(m, s)', in a region that draws its order -/
theorem step_delS (t e : TypeId) (m x : Operand) (hgd : o.guard = none) (ho : o.op = .call { callee := .builtin .delete, args := #[m, x], argTypes := #[t, k] }) (ht : P.underlying t = some (.map k e))
    (hm : a.eval m = .map (some b)) (h : MpS T w F b L) {s : κ} (hx : a.eval x = T.kv s) (hF : ¬ F b)
    (hK : ∀ w', MpS T w' F b (woS L s) → w.grownBy w' (some b) → w.heap.size = w'.heap.size → K (a.put o.dst (.tuple #[])) w') : if Region.wanted o (yielded ops a.tmps) = true then Oper.wp P o a w K Q else E := by
  have hw : Region.wanted o (yielded ops a.tmps) = true := by simp [Region.wanted, hgd]
  rw [if_pos hw]
  obtain ⟨w', hrun, h1, h2, h3⟩ := h.run_del t e ht s hF o.type
  unfold Oper.wp
  simp [execOp, ho, resolve, invoke, builtin, hm, hx, hrun, Result.andThen]
  exact hK w' h1 h2 h3
omit [DecidableEq κ] in
theorem ranges_tight {R : Value → Option (DataW Value × List MemPlace)} {r n cnt : Nat} {D : DataW Value} {left : Lit → Bool} (h : w.ranges P k R b r n D left cnt) : w.ranges P k R b r (Maps.size D) D left cnt := by
  obtain ⟨es, clock, since, seen, c0, h1, h2, h3, rfl, h5⟩ := h
  exact ⟨es, clock, since, seen, c0, h1, h2, by simp [Maps.size, length_sorted], rfl, h5⟩
/-- 'delete(m, s)' while the map is ranged over -/
theorem RS.run_del {r : Nat} {dn rs : List (κ × β)} (h : RS T w F b r dn rs) (t e : TypeId) (ht : P.underlying t = some (.map k e)) (s : κ) (hF : ¬ F b) (ty : TypeId) :
    ∃ w', (Builtin.delete_ #[t, k] ty #[.map (some b), T.kv s]).run P w = .ok (.tuple #[]) w' ∧ RS T w' F b r (woS dn s) (woS rs s) ∧ w'.rangeLeft b r ≤ w.rangeLeft b r ∧ w.grownBy w' (some b) ∧ w.heap.size = w'.heap.size := by
  obtain ⟨ld, lr, es, left, cnt, rfl, rfl, hrg, hp, h5, h6⟩ := h
  obtain ⟨w', cnt', hrun, hrg', hle, ht'⟩ := hrg.drop T.law ht (T.ko s) ty
  have hg := ht'.grown
  have hkp : ∀ x, x < w.heap.size → F x → F x ∧ w'.heap[x]? = w.heap[x]? := fun x hx hf => ⟨hf, hg.block x hx (fun e => by injection e with e; subst e; exact hF hf)⟩
  have hpp : (es.filter fun p => !p.1.sameKey (T.kl s)).Perm (((ld.filter fun p => decide (p.1.1 ≠ s)) ++ lr.filter fun p => decide (p.1.1 ≠ s)).map (entS T)) := by
    rw [← List.filter_append, ← entS_filter]
    exact hp.filter _
  refine ⟨w', hrun, ⟨ld.filter fun p => decide (p.1.1 ≠ s), lr.filter fun p => decide (p.1.1 ≠ s), _, fun x => left x && !x.sameKey (T.kl s), cnt', (woS_map ld s).symm, (woS_map lr s).symm, ?_, hpp, fun p hp => ?_, fun z => ?_⟩, by rw [hrg.left_eq, hrg'.left_eq]; exact hle, hg, ?_⟩
  · have := ranges_tight hrg'
    have e1 : Maps.size ((DataW.map es).del (T.kl s)) = ((ld.filter fun p => decide (p.1.1 ≠ s)) ++ lr.filter fun p => decide (p.1.1 ≠ s)).length := by
      show (es.filter fun p => !p.1.sameKey (T.kl s)).length = _
      rw [hpp.length_eq, List.length_map]
    rw [e1] at this
    exact this
  · rw [← List.filter_append] at hp
    exact T.keep (h5 p (List.mem_filter.1 hp).1) hkp
  · show (left (T.kl z) && !(T.kl z).sameKey (T.kl s)) = true ↔ _
    rw [MK.same, Bool.and_eq_true, h6 z]
    constructor
    · rintro ⟨⟨q, hq, rfl⟩, hne⟩
      have hne : ¬ q.1.1 = s := by simpa using hne
      exact ⟨q, List.mem_filter.2 ⟨hq, decide_eq_true hne⟩, rfl⟩
    · rintro ⟨q, hq, rfl⟩
      obtain ⟨h1, h2⟩ := List.mem_filter.1 hq
      exact ⟨⟨q, h1, rfl⟩, by simpa using of_decide_eq_true h2⟩
  · obtain ⟨es1, clock, es2, clock2, _, rfl⟩ := ht'
    simp [ChangeMaps.setBlock]
/-- .. in a region in the text's order -/
theorem wp_delRS {r : Nat} {dn rs : List (κ × β)} (t e : TypeId) (m x : Operand) (hgd : o.guard = none) (ho : o.op = .call { callee := .builtin .delete, args := #[m, x], argTypes := #[t, k] }) (ht : P.underlying t = some (.map k e))
    (hm : a.eval m = .map (some b)) (h : RS T w F b r dn rs) {s : κ} (hx : a.eval x = T.kv s) (hF : ¬ F b)
    (hK : ∀ w', RS T w' F b r (woS dn s) (woS rs s) → w'.rangeLeft b r ≤ w.rangeLeft b r → w.grownBy w' (some b) → w.heap.size = w'.heap.size → wpList P ops Q rest (a.put o.dst (.tuple #[])) w') : wpList P ops Q (o :: rest) a w := by
  refine wpList_plain hgd fun K' hK' => ?_
  obtain ⟨w', hrun, h1, h2, h3, h4⟩ := h.run_del t e ht s hF o.type
  unfold Oper.wp
  simp [execOp, ho, resolve, invoke, builtin, hm, hx, hrun, Result.andThen]
  exact hK' _ _ (hK w' h1 h2 h3 h4)
/-- .. in a region that draws its order -/
theorem step_delRS {r : Nat} {dn rs : List (κ × β)} (t e : TypeId) (m x : Operand) (hgd : o.guard = none) (ho : o.op = .call { callee := .builtin .delete, args := #[m, x], argTypes := #[t, k] }) (ht : P.underlying t = some (.map k e))
    (hm : a.eval m = .map (some b)) (h : RS T w F b r dn rs) {s : κ} (hx : a.eval x = T.kv s) (hF : ¬ F b)
    (hK : ∀ w', RS T w' F b r (woS dn s) (woS rs s) → w'.rangeLeft b r ≤ w.rangeLeft b r → w.grownBy w' (some b) → w.heap.size = w'.heap.size → K (a.put o.dst (.tuple #[])) w') : if Region.wanted o (yielded ops a.tmps) = true then Oper.wp P o a w K Q else E := by
  have hw : Region.wanted o (yielded ops a.tmps) = true := by simp [Region.wanted, hgd]
  rw [if_pos hw]
  obtain ⟨w', hrun, h1, h2, h3, h4⟩ := h.run_del t e ht s hF o.type
  unfold Oper.wp
  simp [execOp, ho, resolve, invoke, builtin, hm, hx, hrun, Result.andThen]
  exact hK w' h1 h2 h3 h4
/-- what no key of the list is taken away -/
theorem woS_none {L : List (κ × β)} {s : κ} (h : ∀ p ∈ L, p.1 ≠ s) : woS L s = L := by
  unfold woS
  exact List.filter_eq_self.2 (fun p hp => decide_eq_true (h p hp))
theorem woS_app (L M : List (κ × β)) (s : κ) : woS (L ++ M) s = woS L s ++ woS M s := by unfold woS; rw [List.filter_append]
end Go.V
/- NA: keys of a map that are any struct: their cells. No project text. -/
namespace Go.V
open Go.RowKit Go.Maps Go.ChangeShapes Go.WideShapes Go.ChangeMaps
/-- cells that are a key of type k -/
structure KyG (P : Program) (k : TypeId) where
  cs : List Value
  h : cs.length = P.cellsOf k ∧ (P.keyLits (P.types.size + 1) k cs).isSome = true
noncomputable instance {P : Program} {k : TypeId} : DecidableEq (KyG P k) := fun _ _ => Classical.propDecidable _
def KyG.v {P : Program} {k : TypeId} (x : KyG P k) : Value := .agg x.cs.toArray
def KyG.l {P : Program} {k : TypeId} (x : KyG P k) : Lit := .string (keyBytes ((P.keyLits (P.types.size + 1) k x.cs).getD []))
theorem KyG.vi {P : Program} {k : TypeId} {x y : KyG P k} (h : x.v = y.v) : x = y := by
  unfold KyG.v at h
  injection h with h
  have h : x.cs = y.cs := by
    have := congrArg Array.toList h
    simpa using this
  cases x
  cases y
  cases h
  rfl
/-- k is a struct that may be a key -/
structure StKey (P : Program) (k : TypeId) : Prop where
  fs : ∃ f, P.underlying k = some (.struct f)
  kt : P.keyType k = true
  row : k < P.types.size
  laid : laidOutB P = true
  deep : P.keyTypeAt 3 k = true
variable {P : Program} {k : TypeId}
theorem StKey.kl (h : StKey P k) : WideMaps.KeyLaw P k := by
  obtain ⟨f, h1⟩ := h.fs
  exact deep_law_laid h.laid (m := 3) (by omega) h.row h.deep (by rw [h1])
theorem StKey.law (h : StKey P k) : Keyed P k := Keyed.of_law h.kl
theorem StKey.ko (h : StKey P k) (x : KyG P k) : keyOf P k x.v = some x.l := by
  obtain ⟨f, h1⟩ := h.fs
  obtain ⟨cs, hl, hs⟩ := x
  obtain ⟨ls, hls⟩ := Option.isSome_iff_exists.1 hs
  unfold keyOf
  rw [h1]
  dsimp only
  rw [h.kt]
  simp [KyG.v, KyG.l, Value.formed, h1, hl, Value.cells, hls]
theorem StKey.inv (h : StKey P k) {v : Value} {l : Lit} (hv : keyOf P k v = some l) : ∃ x : KyG P k, v = x.v := by
  obtain ⟨f, h1⟩ := h.fs
  unfold keyOf at hv
  rw [h1] at hv
  dsimp only at hv
  rw [h.kt, Bool.true_and] at hv
  split at hv
  · rename_i hf
    cases v <;> simp [Value.formed, h1] at hf
    rename_i cs
    obtain ⟨cs⟩ := cs
    simp only [Value.cells] at hv
    refine ⟨⟨cs, by simpa using hf, ?_⟩, rfl⟩
    cases hk : P.keyLits (P.types.size + 1) k cs with
    | none => simp [hk] at hv
    | some _ => rfl
  · cases hv
/-- maps by such keys -/
noncomputable def StKey.mk' (h : StKey P k) {β : Type} (V : World → (Nat → Prop) → Value → β → Prop)
    (keep : ∀ {w w' : World} {F F' : Nat → Prop} {v : Value} {d : β}, V w F v d → (∀ x, x < w.heap.size → F x → F' x ∧ w'.heap[x]? = w.heap[x]?) → V w' F' v d) : MK P k (KyG P k) β :=
  ⟨KyG.v, KyG.l, V, h.law, h.ko, h.inv, KyG.vi, keep⟩
/-! what is a key -/
theorem mapM_some {α β : Type} (f : α → Option β) : ∀ (l : List α), (∀ x ∈ l, (f x).isSome = true) → (l.mapM f).isSome = true
  | [], _ => rfl
  | x :: l, h => by
    obtain ⟨y, hy⟩ := Option.isSome_iff_exists.1 (h x (by simp))
    obtain ⟨ys, hys⟩ := Option.isSome_iff_exists.1 (mapM_some f l (fun z hz => h z (by simp [hz])))
    rw [List.mapM_cons, hy, hys]
    rfl
theorem lits_int (d : Nat) (t : TypeId) (q : IntKind) (n : Int) (h : P.underlying t = some (.int q)) (hw : (Lit.int q n).wf = true) : (P.keyLits (d + 1) t [.int q n]).isSome = true := by
  unfold Program.keyLits
  rw [h]
  simp [hw]
theorem lits_arr (d : Nat) (t e : TypeId) (n : Nat) (cs : List Value) (h : P.underlying t = some (.array n e)) (hl : cs.length = P.cellsOf t) (hc : P.cellsOf e = 1) (hn : n = cs.length) (he : ∀ v ∈ cs, (P.keyLits d e [v]).isSome = true) : (P.keyLits (d + 1) t cs).isSome = true := by
  unfold Program.keyLits
  rw [h]
  simp only [hl, if_true, Option.isSome_map]
  refine mapM_some _ _ (fun i hi => ?_)
  have hi := List.mem_range.1 hi
  have hi' : i < cs.length := by omega
  rw [hc, Nat.mul_one, List.drop_eq_getElem_cons hi']
  exact he _ (List.getElem_mem _)
theorem lits_st (d : Nat) (t : TypeId) (fs : Array Field) (cs : List Value) (h : P.underlying t = some (.struct fs)) (hl : cs.length = P.cellsOf t) (hn : fs.all (·.name != "_") = true) (he : ∀ f ∈ fs.toList, (P.keyLits d f.type ((cs.drop f.offset).take (P.cellsOf f.type))).isSome = true) : (P.keyLits (d + 1) t cs).isSome = true := by
  unfold Program.keyLits
  rw [h]
  simp only [hl, hn, and_self, if_true, Option.isSome_map]
  exact mapM_some _ _ he
theorem wfI {x : Int} (h1 : -9223372036854775808 ≤ x) (h2 : x ≤ 9223372036854775807) : (Lit.int .i64 x).wf = true := by
  show (decide (IntKind.i64.min ≤ x) && decide (x ≤ IntKind.i64.max)) = true
  rw [Bool.and_eq_true, decide_eq_true_iff, decide_eq_true_iff]
  exact ⟨h1, h2⟩
theorem wfU8 (b : UInt8) : (Lit.int .u8 (b.toNat : Int)).wf = true := by
  show (decide (IntKind.u8.min ≤ (b.toNat : Int)) && decide ((b.toNat : Int) ≤ IntKind.u8.max)) = true
  have := b.toNat_lt
  rw [Bool.and_eq_true, decide_eq_true_iff, decide_eq_true_iff]
  exact ⟨by show (0 : Int) ≤ _; omega, by show _ ≤ (255 : Int); omega⟩
/-- the key of these cells; any, if they are none -/
noncomputable def kyG (P : Program) (k : TypeId) [Inhabited (KyG P k)] (cs : List Value) : KyG P k :=
  open Classical in if h : cs.length = P.cellsOf k ∧ (P.keyLits (P.types.size + 1) k cs).isSome = true then ⟨cs, h⟩ else default
theorem kyG_v {P : Program} {k : TypeId} [Inhabited (KyG P k)] {cs : List Value} (h : cs.length = P.cellsOf k ∧ (P.keyLits (P.types.size + 1) k cs).isSome = true) : (kyG P k cs).v = .agg cs.toArray := by
  unfold kyG
  rw [dif_pos h]
  rfl
theorem kyG_eq {P : Program} {k : TypeId} [Inhabited (KyG P k)] {cs ds : List Value} (h : cs.length = P.cellsOf k ∧ (P.keyLits (P.types.size + 1) k cs).isSome = true) (h' : ds.length = P.cellsOf k ∧ (P.keyLits (P.types.size + 1) k ds).isSome = true) (e : kyG P k cs = kyG P k ds) : cs = ds := by
  unfold kyG at e
  rw [dif_pos h, dif_pos h'] at e
  exact congrArg KyG.cs e
theorem findS_put {κ β : Type} [DecidableEq κ] (L : List (κ × β)) (s t : κ) (d : β) : findS ((s, d) :: woS L s) t = if t = s then some d else findS L t := by
  unfold findS
  rw [List.find?_cons]
  by_cases h : t = s
  · subst h
    rw [if_pos rfl, decide_eq_true rfl]
    rfl
  · rw [if_neg h, decide_eq_false (fun e => h e.symm)]
    dsimp only
    unfold woS
    rw [List.find?_filter]
    congr 2
    funext p
    by_cases hp : p.1 = t
    · rw [hp]; simp [h]
    · simp [hp]
theorem findS_mem {κ β : Type} [DecidableEq κ] {L : List (κ × β)} {s : κ} {d : β} (h : findS L s = some d) : (s, d) ∈ L := by
  unfold findS at h
  obtain ⟨p, hp, rfl⟩ := Option.map_eq_some_iff.1 h
  have := of_decide_eq_true (List.find?_some (p := fun p : κ × β => decide (p.1 = s)) hp)
  subst this
  exact List.mem_of_find?_eq_some hp
theorem findS_uq {κ β : Type} [DecidableEq κ] : ∀ {L : List (κ × β)}, (L.map (·.1)).Nodup → ∀ {p : κ × β}, p ∈ L → findS L p.1 = some p.2
  | q :: L, hu, p, hp => by
    rw [List.map_cons, List.nodup_cons] at hu
    unfold findS
    rw [List.find?_cons]
    rcases List.mem_cons.1 hp with rfl | hp
    · rw [decide_eq_true rfl]; rfl
    · rw [decide_eq_false (fun e => hu.1 (List.mem_map.2 ⟨p, hp, e.symm⟩))]
      exact findS_uq hu.2 hp
theorem findS_perm {κ β : Type} [DecidableEq κ] {L L' : List (κ × β)} (hu : (L.map (·.1)).Nodup) (hp : L.Perm L') (s : κ) : findS L s = findS L' s := by
  have hu' : (L'.map (·.1)).Nodup := (hp.map _).nodup_iff.1 hu
  apply Option.ext
  intro d
  constructor
  · intro h; exact findS_uq hu' (p := (s, d)) (hp.mem_iff.1 (findS_mem h))
  · intro h; exact findS_uq hu (p := (s, d)) (hp.mem_iff.2 (findS_mem h))
/-! 'm[k] op= v': the entry, then the store -/
section
variable {κ β : Type} [DecidableEq κ] {T : MK P k κ β} {w : World} {F : Nat → Prop} {b : Nat} {L : List (κ × β)}
variable {ops : Array Oper} {o : Oper} {a : Act} {Q : Exit → Act → World → Prop} {K : Act → World → Prop} {E : Prop}
theorem MpS.run_entry (hk : WideMaps.KeyLaw P k) (h : MpS T w F b L) (t e : TypeId) (ht : P.underlying t = some (.map k e)) {z : Value} (hz : ∀ u : World, (zeroValue e).run P u = .ok z u) {z0 : β} (hz0 : T.V w F z z0) (hL : L.length < maxLen) (hF : ¬ F b) (s : κ) :
    ∃ (v : Value) (st : Nat) (w1 : World) (L1 : List (κ × β)), (Instr.mapEntry t (.map (some b)) (T.kv s)).run P w = .ok (.tuple #[v, goInt st]) w1 ∧ MpS T w1 F b L1 ∧ findS L1 s = some ((findS L s).getD z0) ∧ w.grownBy w1 (some b) ∧ w.heap.size = w1.heap.size ∧
      ∀ (w2 : World) (val : Value) (d : β), w2.heap[b]? = w1.heap[b]? → (∀ x, x < w.heap.size → F x → w2.heap[x]? = w.heap[x]?) → T.V w F val d → ∃ w3, (Instr.entryStore t (.map (some b)) (goInt st) val).run P w2 = .ok () w3 ∧ MpS T w3 F b ((s, d) :: woS L s) ∧ w2.grownBy w3 (some b) ∧ w2.heap.size = w3.heap.size := by
  obtain ⟨l, es0, h1, ⟨es, clock, hb, Fi, hs, hD⟩, hp, h5⟩ := id h
  have hkey := T.ko s
  obtain ⟨v0, st, es1, clock1, hrun, _, hsto⟩ := WideElems.entry_then_store hk ht hz hb Fi hkey
  have hg1 : w.grownBy (setBlock w b (.map es1 clock1)) (some b) := (show w.mapTurned (setBlock w b (.map es1 clock1)) b from ⟨es, clock, es1, clock1, hb, rfl⟩).grown
  have hlook := h.run_look t e true ht (hz w) s
  have hmid : ∃ L1, MpS T (setBlock w b (.map es1 clock1)) F b L1 ∧ findS L1 s = some ((findS L s).getD z0) := by
    rcases hk.find w hkey es.toList Fi.keys with ⟨g1, g2⟩ | ⟨j, e0, g1, g2, g3⟩
    · have r1 : (Instr.mapEntry t (.map (some b)) (T.kv s)).run P w = .ok (.tuple #[z, goInt clock]) (setBlock w b (.map (es.push ⟨T.kv s, z, clock⟩) (clock + 1))) := by
        simp [Instr.mapEntry, run_underlying ht, MapKept.run_getObj_map hb, hk.check w false hkey, g1, hz, MapKept.run_setObj_map _ hb, Result.andThen, setBlock]
      have r2 : (Instr.mapUpdate t (.map (some b)) (T.kv s) z).run P w = .ok () (setBlock w b (.map (es.push ⟨T.kv s, z, clock⟩) (clock + 1))) := by
        simp [Instr.mapUpdate, run_underlying ht, MapKept.run_getObj_map hb, hk.check w false hkey, g1, MapKept.run_setObj_map _ hb, Result.andThen, setBlock]
      have r3 : (Instr.lookup t (.map (some b)) (T.kv s) true).run P w = .ok (.tuple #[z, .bool false]) w := by
        simp [Instr.lookup, run_underlying ht, MapKept.run_getObj_map hb, hk.check w es.isEmpty hkey, g1, hz, Result.andThen]
      rw [hrun] at r1
      injection r1 with _ e1
      obtain ⟨w', q1, q2, _⟩ := h.run_put t e ht hL s hz0 hF
      rw [r2] at q1
      injection q1 with _ q1
      rw [e1, q1]
      rcases hlook with ⟨hn, _⟩ | ⟨d, v, _, _, hv⟩
      · exact ⟨_, q2, by rw [findS_put, if_pos rfl, hn]; rfl⟩
      · rw [r3] at hv
        simp at hv
    · have hj : es[j]? = some e0 := by simpa using g2
      have hsame : es.modify j (fun e => { e with key := T.kv s }) = es := by
        apply Array.ext'
        rw [Array.toList_modify, ChangeMaps.modify_eq_set _ _ _ _ g2]
        have : ({ e0 with key := T.kv s } : MapEntry) = e0 := by rw [← g3]
        rw [this]
        exact WideElems.set_self _ _ _ g2
      have r1 : (Instr.mapEntry t (.map (some b)) (T.kv s)).run P w = .ok (.tuple #[e0.val, goInt e0.born]) (setBlock w b (.map es clock)) := by
        simp [Instr.mapEntry, run_underlying ht, MapKept.run_getObj_map hb, hk.check w false hkey, g1, hj, g3, hk.stays w hkey, hsame, MapKept.run_setObj_map _ hb, Result.andThen, setBlock]
      have r3 : (Instr.lookup t (.map (some b)) (T.kv s) true).run P w = .ok (.tuple #[e0.val, .bool true]) w := by
        simp [Instr.lookup, run_underlying ht, MapKept.run_getObj_map hb, hk.check w es.isEmpty hkey, g1, Result.andThen]
      rw [hrun] at r1
      injection r1 with _ e1
      rw [e1]
      have hkp : MpS T (setBlock w b (.map es clock)) F b L := h.keep ((heap_setBlock_same hb _).trans hb.symm) (fun x hx hf => ⟨hf, (show w.mapTurned (setBlock w b (.map es clock)) b from ⟨es, clock, es, clock, hb, rfl⟩).grown.block x hx (fun e => by injection e with e; subst e; exact hF hf)⟩)
      rcases hlook with ⟨_, hv⟩ | ⟨d, v, hd, _, _⟩
      · rw [r3] at hv
        simp at hv
      · exact ⟨_, hkp, by rw [hd]; rfl⟩
  obtain ⟨L1, hm1, hm2⟩ := hmid
  refine ⟨v0, st, _, L1, hrun, hm1, hm2, hg1, by simp [setBlock], fun w2 val d hb2 hF2 hv => ?_⟩
  have hbw : (setBlock w b (.map es1 clock1)).heap[b]? = some (.map es1 clock1) := heap_setBlock_same hb _
  obtain ⟨es', clock', r1, r2⟩ := hsto w2 val (hb2.trans hbw)
  obtain ⟨w', q1, q2, _, _⟩ := h.run_put t e ht hL s hv hF
  rw [r2] at q1
  injection q1 with _ q1
  rw [← q1] at q2
  have hb3 : w2.heap[b]? = some (.map es1 clock1) := hb2.trans hbw
  have hg3 : w2.grownBy (setBlock w2 b (.map es' clock')) (some b) := (show w2.mapTurned (setBlock w2 b (.map es' clock')) b from ⟨es1, clock1, es', clock', hb3, rfl⟩).grown
  refine ⟨_, r1, q2.keep ((heap_setBlock_same hb3 _).trans (heap_setBlock_same hb _).symm) (fun x hx hf => ⟨hf, ?_⟩), hg3, by simp [setBlock]⟩
  have hx' : x < w.heap.size := by simpa [setBlock] using hx
  have hne : b ≠ x := fun e => hF (e ▸ hf)
  have e1 := hF2 x hx' hf
  have e2 : (setBlock w b (.map es' clock')).heap[x]? = w.heap[x]? := (show w.mapTurned (setBlock w b (.map es' clock')) b from ⟨es, clock, es', clock', hb, rfl⟩).grown.block x hx' (fun e => by injection e with e; exact hne e.symm)
  have hx2 : x < w2.heap.size := (Array.getElem?_eq_some_iff.1 (e1.trans (Array.getElem?_eq_getElem hx'))).1
  have e3 : (setBlock w2 b (.map es' clock')).heap[x]? = w2.heap[x]? := hg3.block x hx2 (fun e => by injection e with e; exact hne e.symm)
  rw [e3, e1, e2]
omit [DecidableEq κ] in
/-- the entry, in a region that draws its order -/
theorem step_entryS {s : κ} {v : Value} {st : Nat} {w1 : World} (t : TypeId) (m x : Operand) (hgd : o.guard = none) (ho : o.op = .mapEntry t m x) (hm : a.eval m = .map (some b)) (hx : a.eval x = T.kv s)
    (hrun : (Instr.mapEntry t (.map (some b)) (T.kv s)).run P w = .ok (.tuple #[v, goInt st]) w1) (h : K (a.put o.dst (.tuple #[v, goInt st])) w1) : if Region.wanted o (yielded ops a.tmps) = true then Oper.wp P o a w K Q else E := by
  have hw : Region.wanted o (yielded ops a.tmps) = true := by simp [Region.wanted, hgd]
  rw [if_pos hw]
  unfold Oper.wp execOp
  simp only [ho, hm, hx, Sem.run_bind, Sem.run_pure, hrun, Result.andThen_ok]
  exact h
omit [DecidableEq κ] in
/-- the store -/
theorem step_estoreS {st : Nat} {val : Value} {w3 : World} (t : TypeId) (m x y : Operand) (hgd : o.guard = none) (ho : o.op = .entryStore t m x y) (hm : a.eval m = .map (some b)) (hx : a.eval x = goInt st) (hy : a.eval y = val)
    (hrun : (Instr.entryStore t (.map (some b)) (goInt st) val).run P w = .ok () w3) (h : K (a.put o.dst undef) w3) : if Region.wanted o (yielded ops a.tmps) = true then Oper.wp P o a w K Q else E := by
  have hw : Region.wanted o (yielded ops a.tmps) = true := by simp [Region.wanted, hgd]
  rw [if_pos hw]
  unfold Oper.wp execOp
  simp only [ho, hm, hx, hy, Sem.run_bind, Sem.run_pure, hrun, Result.andThen_ok]
  exact h
omit [DecidableEq κ] in
/-- 'm[s]', where all worlds that may be agree on it -/
theorem y_look {S : World → Prop} (t : TypeId) (m x : Operand) (hw : Region.wanted o (yielded ops a.tmps) = true) (ho : o.op = .lookup t m x false) {s : κ} {u v : Value} (hm : a.eval m = .map (some b)) (hx : a.eval x = u) (hu : u = T.kv s)
    (hS : ∀ W, S W → (Instr.lookup t (.map (some b)) (T.kv s) false).run P W = .ok v W) : YieldsIf P ops S o v a :=
  .inl ⟨hw, fun W hW => by
    unfold execOp
    simp only [ho, hm, hx, hu, Sem.run_bind, Sem.run_pure, hS W hW, Result.andThen_ok]⟩
end
section
variable {P : Program} {w : World} {ops : Array Oper} {o : Oper} {a : Act} {K : Act → World → Prop} {Q : Exit → Act → World → Prop} {E : Prop}
/-- '[]T{x}', in a region that draws its order -/
theorem step_bs18 {t e : TypeId} {z : Value} {by_ : Nat} (ht : SlT P t e z by_) (x : Operand) (hgd : o.guard = none) (ho : o.op = .buildSlice t 1 #[(0, x)]) {u : Value} (hx : a.eval x = u) (huc : u.cells = #[u])
    (h : ∀ g w', g = w.heap.size → Blk w' g e [u] → Below w.heap.size w w' → K (a.put o.dst (.slice (some ⟨g, 0, none⟩) 1 1)) w') : if Region.wanted o (yielded ops a.tmps) = true then Oper.wp P o a w K Q else E := by
  have hw : Region.wanted o (yielded ops a.tmps) = true := by simp [Region.wanted, hgd]
  rw [if_pos hw]
  have e1 : (Array.map (fun (x : Nat × Operand) => (x.1, a.eval x.2)) #[(0, x)]) = #[(0, u)] := by simp [hx]
  unfold Oper.wp execOp
  simp only [ho, e1, Sem.run_bind, Sem.run_pure, run_buildSlice1 (P := P) (w := w) t e z u by_ ht huc, Result.andThen_ok]
  exact h _ _ rfl (Blk.new' w e [u]) ((Below.refl _ _).alloc (Nat.le_refl _) _)
/-- append, in a region that draws its order; where the row lies then is told -/
theorem step_app18 (s x : Operand) {t e : TypeId} {z : Value} {by_ : Nat} (ht : SlT P t e z by_) (hgd : o.guard = none)
    (ho : o.op = .call { callee := .builtin .append, args := #[s, x], argTypes := #[t, t] })
    {base : Nat} {v : Value} {n : Nat} {xs : List Value} (hs : a.eval s = v) (hown : w.ownsRow base e 1 v n xs)
    {A : Option Addr} {m c : Nat} {news : List Value} (hx : a.eval x = .slice A m c) (hsrc : Src w A m news) (h1 : ∀ u ∈ news, u.oneCell' = true)
    (h63 : n + m ≤ maxLen) (hb : (n + m) * by_ ≤ 140737488355328) (hbase : base ≤ w.heap.size)
    (h : ∀ v' w', w'.ownsRow base e 1 v' (n + m) (xs ++ news) → w.grownBy w' v.ownBlock → (v'.ownBlock = v.ownBlock ∨ v'.ownBlock = some w.heap.size) → K (a.put o.dst v') w') :
    if Region.wanted o (yielded ops a.tmps) = true then Oper.wp P o a w K Q else E := by
  have hw : Region.wanted o (yielded ops a.tmps) = true := by simp [Region.wanted, hgd]
  rw [if_pos hw]
  obtain ⟨v', w', hr, h2, h3, h4⟩ := run_append_src (P := P) base t o.type e z by_ ht v n xs hown A m c news hsrc h1 h63 hb hbase
  unfold Oper.wp execOp
  simp only [ho, resolve, invoke, builtin, Sem.run_bind, Sem.run_pure, Result.andThen_ok, List.map_toArray, List.map_cons, List.map_nil, hs, hx, hr]
  exact h v' w' h2 h3 h4
end
end Go.V
