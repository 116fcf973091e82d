/- MO: maps from names to bytes of which each file's bytes are a row of the map's own. No project text. -/
import Derived.Test.YtijhicfegbaadaaDoorMQ
import Derived.Test.YtijhicfegbaadaaDoorD8
namespace Go.V
open Go.RowKit Go.Maps Go.ChangeShapes Go.WideShapes Go.ChangeMaps
theorem rd_row {w : World} {e : TypeId} {v : Value} {n : Nat} {bs : List UInt8} (h : w.ownsRow 0 e 1 v n (bvs bs)) {F : Nat → Prop} (hF : ∀ y, v.ownBlock = some y → F y) : Rd w F v (bys bs) := by
  have hn : n = bs.length := by have := h.1; simp [bvs] at this; omega
  subst hn
  unfold bys Rd
  rcases h.2 with ⟨rfl, h0⟩ | ⟨g, cap, cur, rfl, hg, hh, h1, h2, h3, h4⟩
  · have : bs = [] := List.eq_nil_of_length_eq_zero h0
    subst this
    exact ⟨none, 0, rfl, Nat.le_refl _, by simp [maxLen], fun _ => rfl, fun h => absurd rfl h⟩
  · refine ⟨_, cap, rfl, h1, h2, fun h => by rw [List.eq_nil_of_length_eq_zero h]; rfl, fun _ => ⟨g, 0, rfl, hF g rfl, RdC.of_bytes fun j u hu => ?_⟩⟩
    have := h.cells (g := g) rfl j u hu
    unfold Addr.add at this
    rw [Nat.zero_add]
    split at this
    · rename_i hj; subst hj; exact this
    · simpa using this
/-- block b is a map that holds the files of L; those whose names ok holds of have rows of their own, each another, in blocks of M -/
def FO (P : Program) (k e : TypeId) (w : World) (M : Nat → Prop) (ok : ByteArray → Prop) (b : Nat) (L : List Fl) : Prop :=
  ∃ (l : List (Fl × Value)) (es : List (Lit × DataW Value)), l.map (·.1) = L ∧ w.ownsMap P k heldR b l.length (.map es) ∧ es.Perm (l.map entF) ∧
    (∀ p ∈ l, p.1.n.size ≤ maxLen ∧ (ok p.1.n → w.ownsRow 0 e 1 p.2 p.1.b.length (bvs p.1.b) ∧ ∀ y, p.2.ownBlock = some y → M y)) ∧
    l.Pairwise fun p q => ok p.1.n → ok q.1.n → ∀ y, p.2.ownBlock = some y → q.2.ownBlock ≠ some y
def anyN : ByteArray → Prop := fun _ => True
def notN (s : ByteArray) : ByteArray → Prop := fun n => n ≠ s
variable {P : Program} {k e : TypeId} {w : World} {M : Nat → Prop} {ok : ByteArray → Prop} {b : Nat} {L : List Fl}
theorem FO.lt (h : FO P k e w M ok b L) : b < w.heap.size := by
  obtain ⟨l, es, _, ho, _⟩ := h
  exact ho.lt
theorem FO.keep {w' : World} (h : FO P k e w M ok b L) (hb : w'.heap[b]? = w.heap[b]?) (hM : ∀ y, y < w.heap.size → M y → w'.heap[y]? = w.heap[y]?) : FO P k e w' M ok b L := by
  obtain ⟨l, es, h1, ⟨es0, clock, h2, h3⟩, h4, h5, h6⟩ := h
  exact ⟨l, es, h1, ⟨es0, clock, hb.trans h2, h3⟩, h4, fun p hp => ⟨(h5 p hp).1, fun ho => ⟨own_keep10 ((h5 p hp).2 ho).1 (fun y hy he => hM y hy (((h5 p hp).2 ho).2 y he)), ((h5 p hp).2 ho).2⟩⟩, h6⟩
theorem FO.below {w' : World} (h : FO P k e w M ok b L) (hB : Below w.heap.size w w') : FO P k e w' M ok b L :=
  h.keep (hB.block b h.lt) (fun y hy _ => hB.block y hy)
theorem FO.weak {M' : Nat → Prop} {ok' : ByteArray → Prop} (h : FO P k e w M ok b L) (hM : ∀ y, y < w.heap.size → M y → M' y) (ho : ∀ n, ok' n → ok n) : FO P k e w M' ok' b L := by
  obtain ⟨l, es, h1, h2, h4, h5, h6⟩ := h
  exact ⟨l, es, h1, h2, h4, fun p hp => ⟨(h5 p hp).1, fun hq => ⟨((h5 p hp).2 (ho _ hq)).1, fun y hy => hM y (((h5 p hp).2 (ho _ hq)).1.lt y hy).2 (((h5 p hp).2 (ho _ hq)).2 y hy)⟩⟩, h6.imp (fun h a b => h (ho _ a) (ho _ b))⟩
theorem FO.fms (h : FO P k e w M anyN b L) : FMs P k w M b L := by
  obtain ⟨l, es, h1, h2, h4, h5, _⟩ := h
  exact ⟨l, es, h1, h2, h4, fun p hp => ⟨rd_row ((h5 p hp).2 trivial).1 ((h5 p hp).2 trivial).2, (h5 p hp).1⟩⟩
theorem FO.perm {L' : List Fl} (h : FO P k e w M ok b L) (hL : L.Perm L') : FO P k e w M ok b L' := by
  obtain ⟨l, es, rfl, ho, hp, h5, h6⟩ := h
  obtain ⟨l', h1, h2⟩ : ∃ l' : List (Fl × Value), l'.map (·.1) = L' ∧ l.Perm l' := perm_lift hL l rfl
  exact ⟨l', es, h1, by rw [← h2.length_eq]; exact ho, hp.trans (h2.map _), fun p hp => h5 p (h2.mem_iff.2 hp), (h2.pairwise_iff (fun {a b} h x y z hz e => h y x z e hz)).1 h6⟩
theorem FO.made : FO P k e (w.alloc (.map #[] 0)) M ok w.heap.size [] :=
  ⟨[], [], rfl, World.ownsMap_made _ _ _ _, .refl _, (fun _ hp => nomatch hp), List.Pairwise.nil⟩
/-- what stands at a key -/
theorem ent_at (K : Keyed P k) {n : Nat} {l : List (Fl × Value)} {es : List (Lit × DataW Value)} (ho : w.ownsMap P k heldR b n (.map es)) (hp : es.Perm (l.map entF)) (s : ByteArray) :
    (∀ z : DataW Value, (DataW.map es).atKey (mkl s) z = match (l.find? fun p => decide (p.1.n = s)) with | some p => .held p.2 | none => z) ∧ Maps.has (.map es) (mkl s) = (l.find? fun p => decide (p.1.n = s)).isSome := by
  have hu := ents_uq K ho hp
  have hf : (es.find? fun q => q.1.sameKey (mkl s)) = (l.find? fun p => decide (p.1.n = s)).map entF := by
    rw [← ent_find]
    exact find_perm hp ((hp.pairwise_iff (fun {a b} h => fun e => h ⟨e.2, e.1⟩)).2 (uq_pair hu s))
  constructor
  · intro z
    unfold DataW.atKey
    dsimp only
    rw [hf]
    cases l.find? fun p => decide (p.1.n = s) <;> rfl
  · rw [Maps.has_eq, any_find, hf]
    cases l.find? fun p => decide (p.1.n = s) <;> rfl
theorem own_sl {v : Value} {n : Nat} {xs : List Value} (h : w.ownsRow 0 e 1 v n xs) : ∃ A c, v = .slice A n c := own_shape h
/-- the row at a name, and what the map is without it -/
theorem FO.find (K : Keyed P k) (h : FO P k e w M anyN b L) (s : ByteArray) : ∃ (n : Nat) (es : List (Lit × DataW Value)) (A : Option Addr) (c : Nat), w.ownsMap P k heldR b n (.map es) ∧
    (∀ z : DataW Value, (DataW.map es).atKey (mkl s) z = if (findF L s).isSome then .held (.slice A ((findF L s).getD []).length c) else z) ∧ ((findF L s).isSome = false → A = none ∧ c = 0) ∧ Maps.has (.map es) (mkl s) = (findF L s).isSome ∧
    w.ownsRow 0 e 1 (.slice A ((findF L s).getD []).length c) ((findF L s).getD []).length (bvs ((findF L s).getD [])) ∧ (∀ y, (Value.slice A ((findF L s).getD []).length c).ownBlock = some y → M y) ∧
    FO P k e w (fun y => M y ∧ (Value.slice A ((findF L s).getD []).length c).ownBlock ≠ some y) (notN s) b L := by
  obtain ⟨l, es, rfl, ho, hp, h5, h6⟩ := h
  obtain ⟨ha, hh⟩ := ent_at K ho hp s
  have hu := ents_uq K ho hp
  rw [fl_find]
  cases hq : l.find? fun p => decide (p.1.n = s) with
  | none =>
    rw [hq] at hh
    refine ⟨l.length, es, none, 0, ho, fun z => by rw [ha, hq]; rfl, fun _ => ⟨rfl, rfl⟩, hh, World.ownsRow_nil _ _ _ _, fun y hy => by simp [Value.ownBlock] at hy, l, es, rfl, ho, hp, fun p hpm => ⟨(h5 p hpm).1, fun _ => ⟨((h5 p hpm).2 trivial).1, fun y hy => ⟨((h5 p hpm).2 trivial).2 y hy, by simp [Value.ownBlock]⟩⟩⟩, h6.imp (fun h _ _ => h trivial trivial)⟩
  | some p =>
    rw [hq] at hh
    have hm := List.mem_of_find?_eq_some hq
    have hn : p.1.n = s := by
      have := List.find?_some hq
      exact of_decide_eq_true this
    obtain ⟨h7, h8⟩ := (h5 p hm).2 trivial
    obtain ⟨A, c, hv⟩ := own_sl h7
    rw [hv] at h7 h8
    refine ⟨l.length, es, A, c, ho, fun z => by rw [ha, hq]; show DataW.held p.2 = _; rw [hv]; rfl, (fun h => nomatch h), hh, h7, h8, l, es, rfl, ho, hp, fun q hqm => ⟨(h5 q hqm).1, fun hne => ⟨((h5 q hqm).2 trivial).1, fun y hy => ⟨((h5 q hqm).2 trivial).2 y hy, fun he => ?_⟩⟩⟩, h6.imp (fun h _ _ => h trivial trivial)⟩
    obtain ⟨l1, l2, rfl⟩ := List.append_of_mem hm
    have h9 : (p :: (l1 ++ l2)).Pairwise fun p q => anyN p.1.n → anyN q.1.n → ∀ y, p.2.ownBlock = some y → q.2.ownBlock ≠ some y := (List.perm_middle.pairwise_iff (fun {a b} h x y z hz e => h y x z e hz)).1 h6
    have hqm' : q ∈ p :: (l1 ++ l2) := List.perm_middle.mem_iff.1 hqm
    rcases List.mem_cons.1 hqm' with rfl | hqm'
    · exact hne hn
    · refine (List.pairwise_cons.1 h9).1 q hqm' trivial trivial y ?_ hy
      rw [hv]; exact he
/-- what 'm[s]' comes to -/
theorem FO.run_look (h : FO P k e w M anyN b L) (t te : TypeId) (c : Bool) (hk : P.underlying k = some .string) (ht : P.underlying t = some (.map k te)) (hz : (zeroValue te).run P w = .ok (.slice none 0 0) w) {s : ByteArray} (hs : s.size ≤ maxLen) :
    ∃ A cc, (Instr.lookup t (.map (some b)) (.string s) c).run P w = .ok (if c then .tuple #[.slice A ((findF L s).getD []).length cc, .bool (findF L s).isSome] else .slice A ((findF L s).getD []).length cc) w ∧
      w.ownsRow 0 e 1 (.slice A ((findF L s).getD []).length cc) ((findF L s).getD []).length (bvs ((findF L s).getD [])) ∧ (∀ y, (Value.slice A ((findF L s).getD []).length cc).ownBlock = some y → M y) ∧
      FO P k e w (fun y => M y ∧ (Value.slice A ((findF L s).getD []).length cc).ownBlock ≠ some y) (notN s) b L := by
  have Kd := string_keyed hk
  obtain ⟨n, es, A, cc, hown, hat, hn, hh, h1, h2, h3⟩ := h.find Kd s
  have hkey := WideMaps.keyOf_string_mk hk hs
  refine ⟨A, cc, ?_, h1, h2, h3⟩
  cases c with
  | false =>
    obtain ⟨v, ps, hrun, hv⟩ := hown.lookup Kd ht hz (zd := .held (.slice none 0 0)) (zp := []) rfl hkey
    obtain ⟨-, hd⟩ := heldR_inv hv
    have hat := hat (.held (.slice none 0 0))
    unfold mkl at hat
    rw [hat] at hd
    cases hf : findF L s with
    | none =>
      rw [hf] at hd hn
      obtain ⟨rfl, rfl⟩ := hn rfl
      simp at hd
      subst hd
      exact hrun
    | some x =>
      rw [hf] at hd
      simp at hd
      subst hd
      exact hrun
  | true =>
    obtain ⟨v, ps, hrun, hv⟩ := hown.look_ok Kd ht hz (zd := .held (.slice none 0 0)) (zp := []) rfl hkey
    obtain ⟨-, hd⟩ := heldR_inv hv
    have hat := hat (.held (.slice none 0 0))
    unfold mkl at hat hh
    rw [hat] at hd
    rw [hh] at hrun
    cases hf : findF L s with
    | none =>
      rw [hf] at hd hn hrun
      obtain ⟨rfl, rfl⟩ := hn rfl
      simp at hd
      subst hd
      exact hrun
    | some x =>
      rw [hf] at hd hrun
      simp at hd
      subst hd
      exact hrun
/-- the datum behind a store -/
theorem FO.put_of {w' : World} {n : Nat} {l : List (Fl × Value)} {es : List (Lit × DataW Value)} {s : ByteArray} {bs : List UInt8} {v : Value} (h1 : l.map (·.1) = L) (hp : es.Perm (l.map entF))
    (h5 : ∀ p ∈ l, p.1.n.size ≤ maxLen ∧ (notN s p.1.n → w'.ownsRow 0 e 1 p.2 p.1.b.length (bvs p.1.b) ∧ ∀ y, p.2.ownBlock = some y → M y)) (h6 : l.Pairwise fun p q => notN s p.1.n → notN s q.1.n → ∀ y, p.2.ownBlock = some y → q.2.ownBlock ≠ some y)
    (hs : s.size ≤ maxLen) (hv : w'.ownsRow 0 e 1 v bs.length (bvs bs)) (hM : ∀ y, v.ownBlock = some y → ¬ M y) (ho : w'.ownsMap P k heldR b n ((DataW.map es).put (mkl s) (.held v))) :
    FO P k e w' (fun y => M y ∨ v.ownBlock = some y) anyN b (⟨s, bs⟩ :: woF L s) := by
  subst h1
  have hpp : (DataW.insert (mkl s, DataW.held v) (es.filter fun p => !p.1.sameKey (mkl s))).Perm (((⟨s, bs⟩, v) :: l.filter fun p => decide (p.1.n ≠ s)).map entF) := by
    refine (insert_perm _ _).trans ?_
    rw [List.map_cons, ← ent_filter]
    exact (hp.filter _).cons _
  refine ⟨(⟨s, bs⟩, v) :: l.filter fun p => decide (p.1.n ≠ s), _, by rw [List.map_cons, woF_map], ?_, hpp, fun p hp => ?_, ?_⟩
  · have := own_tight ho
    have e1 : Maps.size ((DataW.map es).put (mkl s) (.held v)) = ((⟨s, bs⟩, v) :: l.filter fun p => decide (p.1.n ≠ s)).length := by
      show (DataW.insert (mkl s, DataW.held v) (es.filter fun p => !p.1.sameKey (mkl s))).length = _
      rw [hpp.length_eq, List.length_map]
    rw [e1] at this
    exact this
  · rcases List.mem_cons.1 hp with rfl | hp
    · exact ⟨hs, fun _ => ⟨hv, fun y hy => .inr hy⟩⟩
    · obtain ⟨hp1, hp2⟩ := List.mem_filter.1 hp
      have hne : p.1.n ≠ s := of_decide_eq_true hp2
      exact ⟨(h5 p hp1).1, fun _ => ⟨((h5 p hp1).2 hne).1, fun y hy => .inl (((h5 p hp1).2 hne).2 y hy)⟩⟩
  · refine List.pairwise_cons.2 ⟨fun q hq _ _ y hy he => ?_, ?_⟩
    · obtain ⟨hq1, hq2⟩ := List.mem_filter.1 hq
      have hne : q.1.n ≠ s := of_decide_eq_true hq2
      exact hM y hy (((h5 q hq1).2 hne).2 y he)
    · have h7 := List.Pairwise.sublist (List.filter_sublist (p := fun p : Fl × Value => decide (p.1.n ≠ s))) h6
      have h8 : (l.filter fun p => decide (p.1.n ≠ s)).Pairwise fun p q => notN s p.1.n ∧ notN s q.1.n := by
        rw [List.pairwise_filter]
        exact List.pairwise_of_forall (fun p q (h1 : decide (p.1.n ≠ s) = true) (h2 : decide (q.1.n ≠ s) = true) => ⟨(of_decide_eq_true h1 : p.1.n ≠ s), (of_decide_eq_true h2 : q.1.n ≠ s)⟩)
      exact (h7.and h8).imp (fun h _ _ => h.1 h.2.1 h.2.2)
/-- what 'm[s] = v' comes to -/
theorem FO.run_put {s : ByteArray} (h : FO P k e w M (notN s) b L) (t te : TypeId) (hk : P.underlying k = some .string) (ht : P.underlying t = some (.map k te)) (hL : L.length < maxLen) (hs : s.size ≤ maxLen) {v : Value} {bs : List UInt8} (hv : w.ownsRow 0 e 1 v bs.length (bvs bs)) (hM : ∀ y, v.ownBlock = some y → ¬ M y ∧ y ≠ b) (hb : ¬ M b) :
    ∃ w', (Instr.mapUpdate t (.map (some b)) (.string s) v).run P w = .ok () w' ∧ FO P k e w' (fun y => M y ∨ v.ownBlock = some y) anyN b (⟨s, bs⟩ :: woF L s) ∧ w.grownBy w' (some b) ∧ w.heap.size = w'.heap.size := by
  have Kd := string_keyed hk
  obtain ⟨l, es, h1, hown, hp, h5, h6⟩ := h
  have hl : l.length < maxLen := by rw [← h1] at hL; simpa using hL
  obtain ⟨A, c, rfl⟩ := own_sl hv
  obtain ⟨w', hrun, ho', ht'⟩ := hown.store (val := .slice A bs.length c) (d := .held (.slice A bs.length c)) (ps := []) Kd ht hl (WideMaps.keyOf_string_mk hk hs) rfl
  have hg := ht'.grown
  have hkp : ∀ y, y < w.heap.size → y ≠ b → w'.heap[y]? = w.heap[y]? := fun y hy hne => hg.block y hy (fun e => by injection e with e; exact hne e)
  refine ⟨w', hrun, FO.put_of h1 hp (fun p hp => ⟨(h5 p hp).1, fun hn => ⟨own_keep10 ((h5 p hp).2 hn).1 (fun y hy he => hkp y hy (fun e => hb (e ▸ ((h5 p hp).2 hn).2 y he))), ((h5 p hp).2 hn).2⟩⟩) h6 hs (own_keep10 hv (fun y hy he => hkp y hy (hM y he).2)) (fun y hy => (hM y hy).1) ho', hg, ?_⟩
  obtain ⟨es1, clock, es2, clock2, _, rfl⟩ := ht'
  simp [ChangeMaps.setBlock]
theorem FO.del_of {w' : World} {n : Nat} {ok' : ByteArray → Prop} {l : List (Fl × Value)} {es : List (Lit × DataW Value)} {s : ByteArray} (h1 : l.map (·.1) = L) (hp : es.Perm (l.map entF))
    (h5 : ∀ p ∈ l, p.1.n.size ≤ maxLen ∧ (ok p.1.n → w'.ownsRow 0 e 1 p.2 p.1.b.length (bvs p.1.b) ∧ ∀ y, p.2.ownBlock = some y → M y)) (h6 : l.Pairwise fun p q => ok p.1.n → ok q.1.n → ∀ y, p.2.ownBlock = some y → q.2.ownBlock ≠ some y)
    (hok : ∀ n, n ≠ s → ok' n → ok n) (ho : w'.ownsMap P k heldR b n ((DataW.map es).del (mkl s))) : FO P k e w' M ok' b (woF L s) := by
  subst h1
  have hpp : (es.filter fun p => !p.1.sameKey (mkl s)).Perm ((l.filter fun p => decide (p.1.n ≠ s)).map entF) := by
    rw [← ent_filter]
    exact hp.filter _
  refine ⟨l.filter fun p => decide (p.1.n ≠ s), _, (woF_map l s).symm, ?_, hpp, fun p hp => ?_, ?_⟩
  · have := own_tight ho
    have e1 : Maps.size ((DataW.map es).del (mkl s)) = (l.filter fun p => decide (p.1.n ≠ s)).length := by
      show (es.filter fun p => !p.1.sameKey (mkl s)).length = _
      rw [hpp.length_eq, List.length_map]
    rw [e1] at this
    exact this
  · obtain ⟨hp1, hp2⟩ := List.mem_filter.1 hp
    have hne : p.1.n ≠ s := of_decide_eq_true hp2
    exact ⟨(h5 p hp1).1, fun hn => (h5 p hp1).2 (hok _ hne hn)⟩
  · have h7 := List.Pairwise.sublist (List.filter_sublist (p := fun p : Fl × Value => decide (p.1.n ≠ s))) h6
    have h8 : (l.filter fun p => decide (p.1.n ≠ s)).Pairwise fun p q => p.1.n ≠ s ∧ q.1.n ≠ s := by
      rw [List.pairwise_filter]
      exact List.pairwise_of_forall (fun p q h1 h2 => ⟨of_decide_eq_true h1, of_decide_eq_true h2⟩)
    exact (h7.and h8).imp (fun h a b => h.1 (hok _ h.2.1 a) (hok _ h.2.2 b))
section
variable {ops : Array Oper} {rest : List Oper} {o : Oper} {a : Act} {Q : Exit → Act → World → Prop} {K : Act → World → Prop} {E : Prop} {s : ByteArray}
/-- 'delete(m, s)' -/
theorem wp_delO {ok' : ByteArray → Prop} (t te : TypeId) (m x : Operand) (hgd : o.guard = none) (ho : o.op = .call { callee := .builtin .delete, args := #[m, x], argTypes := #[t, k] }) (hk : P.underlying k = some .string) (ht : P.underlying t = some (.map k te))
    (hm : a.eval m = .map (some b)) (h : FO P k e w M ok b L) (hx : a.eval x = .string s) (hs : s.size ≤ maxLen) (hb : ¬ M b) (hok : ∀ n, n ≠ s → ok' n → ok n)
    (hK : ∀ w', FO P k e w' M ok' b (woF L s) → w.grownBy w' (some b) → w.heap.size = w'.heap.size → wpList P ops Q rest (a.put o.dst (.tuple #[])) w') : wpList P ops Q (o :: rest) a w := by
  have Kd := string_keyed hk
  obtain ⟨l, es, h1, hown, hp, h5, h6⟩ := h
  refine wpList_delete_own w hgd m x t k ho te Kd ht heldR b l.length (.map es) hm hown (.string s) (mkl s) hx (WideMaps.keyOf_string_mk hk hs) (fun w' ho' ht' => ?_)
  have hg := ht'.grown
  have hkp : ∀ y, y < w.heap.size → y ≠ b → w'.heap[y]? = w.heap[y]? := fun y hy hne => hg.block y hy (fun e => by injection e with e; exact hne e)
  refine hK w' (FO.del_of h1 hp (fun p hp => ⟨(h5 p hp).1, fun hn => ⟨own_keep10 ((h5 p hp).2 hn).1 (fun y hy he => hkp y hy (fun e => hb (e ▸ ((h5 p hp).2 hn).2 y he))), ((h5 p hp).2 hn).2⟩⟩) h6 hok ho') hg ?_
  obtain ⟨es1, clock, es2, clock2, _, rfl⟩ := ht'
  simp [ChangeMaps.setBlock]
/-- 'v, ok := m[s]' -/
theorem wp_lookO (t te : TypeId) (m x : Operand) (hgd : o.guard = none) (ho : o.op = .lookup t m x true) (hk : P.underlying k = some .string) (ht : P.underlying t = some (.map k te)) (hz : (zeroValue te).run P w = .ok (.slice none 0 0) w)
    (hm : a.eval m = .map (some b)) (h : FO P k e w M anyN b L) (hx : a.eval x = .string s) (hs : s.size ≤ maxLen)
    (hK : ∀ A c, w.ownsRow 0 e 1 (.slice A ((findF L s).getD []).length c) ((findF L s).getD []).length (bvs ((findF L s).getD [])) → (∀ y, (Value.slice A ((findF L s).getD []).length c).ownBlock = some y → M y) →
      FO P k e w (fun y => M y ∧ (Value.slice A ((findF L s).getD []).length c).ownBlock ≠ some y) (notN s) b L → wpList P ops Q rest (a.put o.dst (.tuple #[.slice A ((findF L s).getD []).length c, .bool (findF L s).isSome])) w) : wpList P ops Q (o :: rest) a w := by
  obtain ⟨A, c, hrun, h1, h2, h3⟩ := h.run_look t te true hk ht hz hs
  refine wpList_plain hgd fun K' hK' => ?_
  unfold Oper.wp execOp
  simp only [ho, hm, hx, Sem.run_bind, Sem.run_pure, hrun, Result.andThen_ok]
  exact hK' _ _ (hK A c h1 h2 h3)
/-- 'm[s] = v' -/
theorem wp_putO (t te : TypeId) (m x y : Operand) (hgd : o.guard = none) (ho : o.op = .mapUpdate t m x y) (hk : P.underlying k = some .string) (ht : P.underlying t = some (.map k te))
    (hm : a.eval m = .map (some b)) (h : FO P k e w M (notN s) b L) (hL : L.length < maxLen) (hx : a.eval x = .string s) (hs : s.size ≤ maxLen) {v : Value} (hy : a.eval y = v) {bs : List UInt8} (hv : w.ownsRow 0 e 1 v bs.length (bvs bs)) (hM : ∀ y, v.ownBlock = some y → ¬ M y ∧ y ≠ b) (hb : ¬ M b)
    (hK : ∀ w', FO P k e w' (fun y => M y ∨ v.ownBlock = some y) anyN b (⟨s, bs⟩ :: woF L s) → w.grownBy w' (some b) → w.heap.size = w'.heap.size → wpList P ops Q rest (a.put o.dst undef) w') : wpList P ops Q (o :: rest) a w := by
  obtain ⟨w', hrun, h1, h2, h3⟩ := h.run_put t te hk ht hL hs hv hM hb
  refine wpList_plain hgd fun K' hK' => ?_
  unfold Oper.wp execOp
  simp only [ho, hm, hx, hy, Sem.run_bind, Sem.run_pure, hrun, Result.andThen_ok]
  exact hK' _ _ (hK w' h1 h2 h3)
/-- 'm[s]', in a region that draws its order -/
theorem step_lookO (t te : TypeId) (m x : Operand) (hgd : o.guard = none) (ho : o.op = .lookup t m x false) (hk : P.underlying k = some .string) (ht : P.underlying t = some (.map k te)) (hz : (zeroValue te).run P w = .ok (.slice none 0 0) w)
    (hm : a.eval m = .map (some b)) (h : FO P k e w M anyN b L) (hx : a.eval x = .string s) (hs : s.size ≤ maxLen)
    (hK : ∀ A c, w.ownsRow 0 e 1 (.slice A ((findF L s).getD []).length c) ((findF L s).getD []).length (bvs ((findF L s).getD [])) → (∀ y, (Value.slice A ((findF L s).getD []).length c).ownBlock = some y → M y) →
      FO P k e w (fun y => M y ∧ (Value.slice A ((findF L s).getD []).length c).ownBlock ≠ some y) (notN s) b L → K (a.put o.dst (.slice A ((findF L s).getD []).length c)) w) : if Region.wanted o (yielded ops a.tmps) = true then Oper.wp P o a w K Q else E := by
  have hw : Region.wanted o (yielded ops a.tmps) = true := by simp [Region.wanted, hgd]
  rw [if_pos hw]
  obtain ⟨A, cc, hrun, h1, h2, h3⟩ := h.run_look t te false hk ht hz hs
  unfold Oper.wp execOp
  simp only [ho, hm, hx, Sem.run_bind, Sem.run_pure, hrun, Result.andThen_ok]
  exact hK A cc h1 h2 h3
/-- 'm[s] = v', in a region that draws its order -/
theorem step_putO (t te : TypeId) (m x y : Operand) (hgd : o.guard = none) (ho : o.op = .mapUpdate t m x y) (hk : P.underlying k = some .string) (ht : P.underlying t = some (.map k te))
    (hm : a.eval m = .map (some b)) (h : FO P k e w M (notN s) b L) (hL : L.length < maxLen) (hx : a.eval x = .string s) (hs : s.size ≤ maxLen) {v : Value} (hy : a.eval y = v) {bs : List UInt8} (hv : w.ownsRow 0 e 1 v bs.length (bvs bs)) (hM : ∀ y, v.ownBlock = some y → ¬ M y ∧ y ≠ b) (hb : ¬ M b)
    (hK : ∀ w', FO P k e w' (fun y => M y ∨ v.ownBlock = some y) anyN b (⟨s, bs⟩ :: woF L s) → w.grownBy w' (some b) → w.heap.size = w'.heap.size → K (a.put o.dst undef) w') : if Region.wanted o (yielded ops a.tmps) = true then Oper.wp P o a w K Q else E := by
  have hw : Region.wanted o (yielded ops a.tmps) = true := by simp [Region.wanted, hgd]
  rw [if_pos hw]
  obtain ⟨w', hrun, h1, h2, h3⟩ := h.run_put t te hk ht hL hs hv hM hb
  unfold Oper.wp execOp
  simp only [ho, hm, hx, hy, Sem.run_bind, Sem.run_pure, hrun, Result.andThen_ok]
  exact hK w' h1 h2 h3
/-- 'append(v, s...)' of bytes, in a region that draws its order, with where the row lies-/
theorem step_appO (s x : Operand) {t e : TypeId} {z : Value} {by_ : Nat} (ht : SlT P t e z by_) (hgd : o.guard = none)
    (ho : o.op = .call { callee := .builtin .append, args := #[s, x], argTypes := #[t, t] })
    {base : Nat} {v : Value} {n : Nat} {xs : List Value} (hs : a.eval s = v) (hown : w.ownsRow base e 1 v n xs)
    {A : Option Addr} {m c : Nat} {news : List Value} (hx : a.eval x = .slice A m c) (hsrc : Src w A m news) (h1 : ∀ u ∈ news, u.oneCell' = true)
    (h63 : n + m ≤ maxLen) (hb : (n + m) * by_ ≤ 140737488355328) (hbase : base ≤ w.heap.size)
    (h : ∀ v' w', w'.ownsRow base e 1 v' (n + m) (xs ++ news) → w.grownBy w' v.ownBlock → (v'.ownBlock = v.ownBlock ∨ v'.ownBlock = some w.heap.size) → K (a.put o.dst v') w') :
    if Region.wanted o (yielded ops a.tmps) = true then Oper.wp P o a w K Q else E := by
  have hw : Region.wanted o (yielded ops a.tmps) = true := by simp [Region.wanted, hgd]
  rw [if_pos hw]
  obtain ⟨v', w', hr, h2, h3, h4⟩ := run_append_src (P := P) base t o.type e z by_ ht v n xs hown A m c news hsrc h1 h63 hb hbase
  unfold Oper.wp execOp
  simp only [ho, resolve, invoke, builtin, Sem.run_bind, Sem.run_pure, Result.andThen_ok, List.map_toArray, List.map_cons, List.map_nil, hs, hx, hr]
  exact h v' w' h2 h3 h4
end
end Go.V
