/- Cq: several texts in one (Kp Cq). -/
import Derived.Test.YthbbpfnfnnmdnaaDoorCp
import Derived.Test.YthbbpfnfnnmdnaaDoorYC
import Derived.Test.YthbbpfnfnnmdnaaDoorS9
/- Kp: layer 18, pure: votes of one slot. No project text. -/
namespace Go.Proofs.YthbbpfnfnnmdnaaDoor
open Go.RowKit Go.V
/-- a vote that is kept: what it says, its bytes -/
structure Nv where
  m : Mg
  b : List UInt8
/-- what a part says, or why it is refused -/
def tlC (ks : List (List UInt8)) (V : Vc) (slot : Int) (X : List UInt8) : Except Nat Mg := match opOf ks V X with
  | .error e => .error e
  | .ok m => if m.k ≠ 2 ∧ m.k ≠ 3 then .error 15 else if m.v ≠ V.n then .error 9 else if m.s ≠ slot then .error 8 else .ok m
def sameV (m : Mg) (v : Nv) : Bool := decide (v.m.f = m.f ∧ v.m.k = m.k ∧ v.m.r = m.r)
def tkE (ks : List (List UInt8)) (V : Vc) (slot : Int) (L : List Nv) (X : List UInt8) : Nat := match tlC ks V slot X with
  | .error e => e
  | .ok m => if L.any (sameV m) = true then 7 else 0
def tkL (ks : List (List UInt8)) (V : Vc) (slot : Int) (L : List Nv) (X : List UInt8) : List Nv := match tlC ks V slot X with
  | .error _ => L
  | .ok m => if L.any (sameV m) = true then L else L ++ [⟨m, X⟩]
def isV (k r : Int) (h : List UInt8) (i : Nat) (v : Nv) : Bool := decide (v.m.f = (i : Int) ∧ v.m.k = k ∧ v.m.r = r ∧ v.m.h = h)
/-- the votes of a kind, a regency and a digest, by rising members -/
def forC (L : List Nv) (k r : Int) (h : List UInt8) : List (List UInt8) := (List.range 16).filterMap (fun i => (L.find? (isV k r h i)).map Nv.b)
/-- who cast them -/
def memC (L : List Nv) (k r : Int) (h : List UInt8) : List Nat := (List.range 16).filter (fun i => L.any (isV k r h i))
def enfC (V : Vc) (L : List Nv) (k r : Int) (h : List UInt8) : Bool := decide (0 < quoN V.n V.m ∧ quoN V.n V.m ≤ (forC L k r h).length)
/-- the digest for which a quorum votes -/
def mstC (V : Vc) (L : List Nv) (k r : Int) : Option (List UInt8) := (L.find? (fun v => decide (v.m.k = k ∧ v.m.r = r) && enfC V L k r v.m.h)).map (fun v => v.m.h)
/-- the least regency in which one is accepted -/
def accC (V : Vc) (L : List Nv) : Option Nat := (List.range 41).find? (fun (r : Nat) => (mstC V L 3 (r : Int)).isSome)
def SV (a b : Nv) : Prop := a.m.f = b.m.f ∧ a.m.k = b.m.k ∧ a.m.r = b.m.r
/-- what holds of the votes that are kept -/
structure NvIn (ks : List (List UInt8)) (V : Vc) (slot : Int) (L : List Nv) : Prop where
  v : ∀ v ∈ L, tlC ks V slot v.b = .ok v.m
  u : L.Pairwise (fun a b => ¬ SV a b)
theorem NvIn.nil (ks : List (List UInt8)) (V : Vc) (slot : Int) : NvIn ks V slot [] := ⟨fun v h => by simp at h, List.Pairwise.nil⟩
variable {ks : List (List UInt8)} {V : Vc} {slot : Int} {L : List Nv}
theorem any_same {m : Mg} (h : L.any (sameV m) = false) : ∀ v ∈ L, ¬ (v.m.f = m.f ∧ v.m.k = m.k ∧ v.m.r = m.r) := fun v hv hs => by
  have : L.any (sameV m) = true := List.any_eq_true.2 ⟨v, hv, decide_eq_true hs⟩
  rw [h] at this
  cases this
theorem tk_in (h : NvIn ks V slot L) (X : List UInt8) : NvIn ks V slot (tkL ks V slot L X) := by
  unfold tkL
  cases ht : tlC ks V slot X with
  | error e => exact h
  | ok m =>
    show NvIn ks V slot (if L.any (sameV m) = true then L else L ++ [⟨m, X⟩])
    cases ha : L.any (sameV m) with
    | true => exact h
    | false =>
      refine ⟨fun v hv => ?_, ?_⟩
      · rcases List.mem_append.1 hv with hv | hv
        · exact h.v v hv
        · rw [List.mem_singleton.1 hv]; exact ht
      · show (L ++ [_]).Pairwise _
        rw [List.pairwise_append]
        refine ⟨h.u, List.pairwise_singleton _ _, fun a ha' b hb hs => ?_⟩
        rw [List.mem_singleton.1 hb] at hs
        exact any_same ha a ha' hs
theorem tk_sub (X : List UInt8) : ∀ v ∈ L, v ∈ tkL ks V slot L X := fun v hv => by
  unfold tkL
  cases tlC ks V slot X with
  | error e => exact hv
  | ok m =>
    show v ∈ (if L.any (sameV m) = true then L else L ++ [⟨m, X⟩])
    cases L.any (sameV m) with
    | true => exact hv
    | false => exact List.mem_append_left _ hv
theorem pw_uniq {R : Nv → Nv → Prop} (hs : ∀ a b, R a b → R b a) : ∀ {L : List Nv}, L.Pairwise R → ∀ a ∈ L, ∀ b ∈ L, ¬ R a b → a = b
  | [], _, a, ha, _, _, _ => by simp at ha
  | x :: L, h, a, ha, b, hb, hn => by
    rw [List.pairwise_cons] at h
    rcases List.mem_cons.1 ha with e1 | ha2
    · rcases List.mem_cons.1 hb with e2 | hb2
      · rw [e1, e2]
      · rw [e1] at hn; exact absurd (h.1 b hb2) hn
    · rcases List.mem_cons.1 hb with e2 | hb2
      · rw [e2] at hn; exact absurd (hs _ _ (h.1 a ha2)) hn
      · exact pw_uniq hs h.2 a ha2 b hb2 hn
theorem NvIn.one (h : NvIn ks V slot L) {a b : Nv} (ha : a ∈ L) (hb : b ∈ L) (hs : SV a b) : a = b :=
  pw_uniq (fun _ _ h1 h2 => h1 ⟨h2.1.symm, h2.2.1.symm, h2.2.2.symm⟩) h.u a ha b hb (fun hn => hn hs)
theorem find_one {p : Nv → Bool} (hu : ∀ a ∈ L, ∀ b ∈ L, p a = true → p b = true → a = b) {v : Nv} : L.find? p = some v ↔ v ∈ L ∧ p v = true := by
  constructor
  · intro h
    exact ⟨List.mem_of_find?_eq_some h, List.find?_some h⟩
  · rintro ⟨hv, hp⟩
    cases hf : L.find? p with
    | none => exact absurd hp (by rw [List.find?_eq_none] at hf; exact hf v hv)
    | some v' => rw [hu v' (List.mem_of_find?_eq_some hf) v hv (List.find?_some hf) hp]
theorem NvIn.fnd (h : NvIn ks V slot L) (k r : Int) (d : List UInt8) (i : Nat) {v : Nv} : L.find? (isV k r d i) = some v ↔ v ∈ L ∧ isV k r d i v = true :=
  find_one (fun a ha b hb h1 h2 => by
    have h1 := of_decide_eq_true h1
    have h2 := of_decide_eq_true h2
    exact h.one ha hb ⟨h1.1.trans h2.1.symm, h1.2.1.trans h2.2.1.symm, h1.2.2.1.trans h2.2.2.1.symm⟩)
theorem mem_for {k r : Int} {d X : List UInt8} (hX : X ∈ forC L k r d) : ∃ i v, i < 16 ∧ v ∈ L ∧ isV k r d i v = true ∧ v.b = X := by
  unfold forC at hX
  rw [List.mem_filterMap] at hX
  obtain ⟨i, hi, he⟩ := hX
  rw [Option.map_eq_some_iff] at he
  obtain ⟨v, hv, hb⟩ := he
  exact ⟨i, v, List.mem_range.1 hi, List.mem_of_find?_eq_some hv, List.find?_some hv, hb⟩
theorem fmK_len {α β : Type} (f : α → Option β) (p : α → Bool) (h : ∀ a, (f a).isSome = p a) : ∀ l : List α, (l.filterMap f).length = (l.filter p).length
  | [] => rfl
  | a :: l => by
    have ih := fmK_len f p h l
    have ha := h a
    rw [List.filterMap_cons, List.filter_cons]
    cases hf : f a with
    | none => rw [hf] at ha; rw [← ha]; simpa using ih
    | some b => rw [hf] at ha; rw [← ha]; simpa using ih
theorem for_len (L : List Nv) (k r : Int) (d : List UInt8) : (forC L k r d).length = (memC L k r d).length := by
  unfold forC memC
  refine fmK_len _ _ (fun i => ?_) _
  rw [Option.isSome_map]
  cases hf : L.find? (isV k r d i) with
  | none =>
    rw [List.find?_eq_none] at hf
    cases ha : L.any (isV k r d i) with
    | false => rfl
    | true =>
      obtain ⟨v, hv, hp⟩ := List.any_eq_true.1 ha
      exact absurd hp (hf v hv)
  | some v =>
    have : L.any (isV k r d i) = true := List.any_eq_true.2 ⟨v, List.mem_of_find?_eq_some hf, List.find?_some hf⟩
    rw [this]; rfl
theorem for_le (L : List Nv) (k r : Int) (d : List UInt8) : (forC L k r d).length ≤ 16 := by
  have := List.length_filterMap_le (fun i => (L.find? (isV k r d i)).map Nv.b) (List.range 16)
  rw [List.length_range] at this
  exact this
/-- what is told of a vote that is kept -/
theorem tl_ok {X : List UInt8} {m : Mg} (h : tlC ks V slot X = .ok m) : opOf ks V X = .ok m ∧ (m.k = 2 ∨ m.k = 3) ∧ m.v = V.n ∧ m.s = slot := by
  unfold tlC at h
  split at h
  · cases h
  · rename_i m' ho
    split at h
    · cases h
    · rename_i h1
      split at h
      · cases h
      · rename_i h2
        split at h
        · cases h
        · rename_i h3
          injection h with h
          subst h
          exact ⟨ho, by omega, Classical.not_not.1 h2, Classical.not_not.1 h3⟩
theorem op_mem {X : List UInt8} {m : Mg} (h : opOf ks V X = .ok m) : 0 ≤ m.f ∧ m.f < 16 ∧ mbit V.m m.f.toNat = true := by
  unfold opOf at h
  split at h
  · rename_i m' _
    split at h
    · rename_i hb
      injection h with h
      subst h
      unfold hasB at hb
      rw [Bool.and_eq_true, decide_eq_true_eq] at hb
      exact ⟨hb.1.1, hb.1.2, hb.2⟩
    · cases h
  · cases h
theorem NvIn.mem (h : NvIn ks V slot L) {v : Nv} (hv : v ∈ L) : 0 ≤ v.m.f ∧ v.m.f < 16 ∧ mbit V.m v.m.f.toNat = true := op_mem (tl_ok (h.v v hv)).1
/-- whose vote a kept part is, and for what it counts -/
theorem NvIn.cnt (h : NvIn ks V slot L) {v : Nv} (hv : v ∈ L) (k r : Int) (d : List UInt8) : cntC ks V ⟨k, V.n, r, slot, d⟩ v.b = if v.m.k = k ∧ v.m.r = r ∧ v.m.h = d then some v.m.f.toNat else none := by
  obtain ⟨ho, _, hn, hs⟩ := tl_ok (h.v v hv)
  unfold cntC
  rw [ho]
  show (if v.m.v = V.n ∧ v.m.k = k ∧ v.m.v = V.n ∧ v.m.r = r ∧ v.m.s = slot ∧ v.m.h = d then some v.m.f.toNat else none) = _
  by_cases hc : v.m.k = k ∧ v.m.r = r ∧ v.m.h = d
  · rw [if_pos hc, if_pos ⟨hn, hc.1, hn, hc.2.1, hs, hc.2.2⟩]
  · rw [if_neg hc, if_neg (fun hx => hc ⟨hx.2.1, hx.2.2.2.1, hx.2.2.2.2.2⟩)]
theorem who_for (h : NvIn ks V slot L) (k r : Int) (d : List UInt8) : whoC ks V ⟨k, V.n, r, slot, d⟩ (forC L k r d) = memC L k r d := by
  unfold whoC memC
  apply List.filter_congr
  intro i hi
  rw [Bool.eq_iff_iff, List.any_eq_true, List.any_eq_true]
  constructor
  · rintro ⟨X, hX, hc⟩
    obtain ⟨j, v, _, hv, hp, rfl⟩ := mem_for hX
    have hc := of_decide_eq_true hc
    have hp' := of_decide_eq_true hp
    rw [h.cnt hv, if_pos hp'.2] at hc
    injection hc with hc
    have := (h.mem hv).1
    exact ⟨v, hv, decide_eq_true ⟨by omega, hp'.2⟩⟩
  · rintro ⟨v, hv, hp⟩
    have hp' := of_decide_eq_true hp
    refine ⟨v.b, ?_, decide_eq_true (by rw [h.cnt hv, if_pos hp'.2, hp'.1]; rfl)⟩
    unfold forC
    rw [List.mem_filterMap]
    exact ⟨i, hi, by rw [(h.fnd k r d i).2 ⟨hv, hp⟩]; rfl⟩
theorem enf_iff {k r : Int} {d : List UInt8} : enfC V L k r d = true ↔ 0 < quoN V.n V.m ∧ quoN V.n V.m ≤ (memC L k r d).length := by
  unfold enfC
  rw [decide_eq_true_eq, for_len]
theorem quo_rgt {n : Int} {M : Nat} (h : 0 < quoN n M) : rgt n M = true ∧ szM M < 2 * quoN n M := by
  unfold quoN at h ⊢
  by_cases hr : rgt n M = true
  · rw [if_pos hr] at h ⊢; exact ⟨hr, by omega⟩
  · rw [if_neg hr] at h; omega
theorem fil_two {pa pb pm : Nat → Bool} (hd : ∀ i, pa i = true → pb i = true → False) (ha : ∀ i, pa i = true → pm i = true) (hb : ∀ i, pb i = true → pm i = true) : ∀ (l : List Nat), (l.filter pa).length + (l.filter pb).length ≤ (l.filter pm).length
  | [] => Nat.le_refl _
  | i :: l => by
    have ih := fil_two hd ha hb l
    have h0 := hd i
    have h1 := ha i
    have h2 := hb i
    simp only [List.filter_cons]
    cases hpa : pa i <;> cases hpb : pb i <;> cases hpm : pm i <;> simp_all <;> omega
/-- never more than one digest -/
theorem enf_one (h : NvIn ks V slot L) {k r : Int} {d d' : List UInt8} (h1 : enfC V L k r d = true) (h2 : enfC V L k r d' = true) : d = d' := by
  rw [enf_iff] at h1 h2
  have hq := (quo_rgt h1.1).2
  apply Classical.byContradiction
  intro hne
  have hpm : ∀ (e : List UInt8) (i : Nat), L.any (isV k r e i) = true → mbit V.m i = true := fun e i hi => by
    obtain ⟨v, hv, hp⟩ := List.any_eq_true.1 hi
    have hp := (of_decide_eq_true hp).1
    have := (h.mem hv).2.2
    rw [hp] at this
    exact this
  have := fil_two (pa := fun i => L.any (isV k r d i)) (pb := fun i => L.any (isV k r d' i)) (pm := mbit V.m) (fun i ha hb => by
    obtain ⟨v, hv, hp⟩ := List.any_eq_true.1 ha
    obtain ⟨v', hv', hp'⟩ := List.any_eq_true.1 hb
    have hp := of_decide_eq_true hp
    have hp' := of_decide_eq_true hp'
    have he := h.one hv hv' ⟨hp.1.trans hp'.1.symm, hp.2.1.trans hp'.2.1.symm, hp.2.2.1.trans hp'.2.2.1.symm⟩
    subst he
    exact hne (hp.2.2.2.symm.trans hp'.2.2.2)) (hpm d) (hpm d') (List.range 16)
  have e1 : (memC L k r d).length = ((List.range 16).filter (fun i => L.any (isV k r d i))).length := rfl
  have e2 : (memC L k r d').length = ((List.range 16).filter (fun i => L.any (isV k r d' i))).length := rfl
  have e3 : szM V.m = ((List.range 16).filter (mbit V.m)).length := rfl
  omega
theorem mst_iff (h : NvIn ks V slot L) {k r : Int} {d : List UInt8} : mstC V L k r = some d ↔ enfC V L k r d = true := by
  unfold mstC
  rw [Option.map_eq_some_iff]
  constructor
  · rintro ⟨v, hf, rfl⟩
    have := List.find?_some hf
    rw [Bool.and_eq_true] at this
    exact this.2
  · intro he
    have h1 := enf_iff.1 he
    have hne : memC L k r d ≠ [] := fun h0 => by rw [h0] at h1; simp at h1; omega
    obtain ⟨i, hi⟩ := List.exists_mem_of_ne_nil _ hne
    unfold memC at hi
    obtain ⟨_, hi⟩ := List.mem_filter.1 hi
    obtain ⟨v, hv, hp⟩ := List.any_eq_true.1 hi
    have hp := of_decide_eq_true hp
    cases hf : L.find? (fun v => decide (v.m.k = k ∧ v.m.r = r) && enfC V L k r v.m.h) with
    | none =>
      rw [List.find?_eq_none] at hf
      exact absurd (by rw [Bool.and_eq_true]; exact ⟨decide_eq_true ⟨hp.2.1, hp.2.2.1⟩, by rw [hp.2.2.2]; exact he⟩) (hf v hv)
    | some v' =>
      have := List.find?_some hf
      rw [Bool.and_eq_true] at this
      exact ⟨v', rfl, enf_one h this.2 he⟩
/-- what is told that a quorum wrote is proof of it -/
theorem mst_wri (h : NvIn ks V slot L) {r : Int} {d : List UInt8} (hm : mstC V L 2 r = some d) : wriC ks V r slot d (forC L 2 r d) = 0 := by
  have he := enf_iff.1 ((mst_iff h).1 hm)
  unfold wriC
  refine if_pos ⟨?_, ?_⟩
  · unfold okC
    rw [Bool.and_eq_true, decide_eq_true_eq]
    exact ⟨(quo_rgt he.1).1, for_le _ _ _ _⟩
  · unfold enC
    rw [decide_eq_true_eq, who_for h]
    exact he.2
theorem acc_some {r : Nat} (ha : accC V L = some r) : r ≤ 40 ∧ ∃ d, mstC V L 3 (r : Int) = some d := by
  unfold accC at ha
  have h1 := List.mem_range.1 (List.mem_of_find?_eq_some ha)
  have h2 := List.find?_some ha
  obtain ⟨d, hd⟩ := Option.isSome_iff_exists.1 h2
  exact ⟨by omega, d, hd⟩
/-- what is told that a quorum accepted is proof of it -/
theorem acc_dec (h : NvIn ks V slot L) {r : Nat} {d : List UInt8} (h40 : r ≤ 40) (hm : mstC V L 3 (r : Int) = some d) : decC ks V slot d (forC L 3 (r : Int) d) = ((r : Int), 0) := by
  have he := enf_iff.1 ((mst_iff h).1 hm)
  have hl : leaC ks V slot d (forC L 3 (r : Int) d) = some r := by
    refine lea_of h40 ?_ (fun n hn => ?_)
    · unfold enC
      rw [decide_eq_true_eq, who_for h]
      exact he.2
    · unfold enC
      rw [decide_eq_false_iff_not]
      have h0 : whoC ks V ⟨3, V.n, (n : Int), slot, d⟩ (forC L 3 (r : Int) d) = [] := by
        apply List.eq_nil_iff_forall_not_mem.2
        intro i hi
        obtain ⟨_, X, hX, hc⟩ := who_mem.1 hi
        obtain ⟨j, v, _, hv, hp, rfl⟩ := mem_for hX
        have hp := of_decide_eq_true hp
        rw [h.cnt hv, if_neg (fun hx => by have := hx.2.1; have := hp.2.2.1; omega)] at hc
        cases hc
      rw [h0]
      show ¬ quoN V.n V.m ≤ 0
      omega
  unfold decC
  have hok : okC V (forC L 3 (r : Int) d) = true := by
    unfold okC
    rw [Bool.and_eq_true, decide_eq_true_eq]
    exact ⟨(quo_rgt he.1).1, for_le _ _ _ _⟩
  rw [if_pos hok, hl]
/-- in whatever order -/
theorem for_ext {L' : List Nv} (h : NvIn ks V slot L) (h' : NvIn ks V slot L') (he : ∀ v, v ∈ L ↔ v ∈ L') (k r : Int) (d : List UInt8) : forC L k r d = forC L' k r d := by
  unfold forC
  congr 1
  funext i
  have : L.find? (isV k r d i) = L'.find? (isV k r d i) := by
    apply Option.ext
    intro v
    rw [h.fnd, h'.fnd, he]
  rw [this]
theorem mst_ext {L' : List Nv} (h : NvIn ks V slot L) (h' : NvIn ks V slot L') (he : ∀ v, v ∈ L ↔ v ∈ L') (k r : Int) : mstC V L k r = mstC V L' k r := by
  apply Option.ext
  intro d
  rw [mst_iff h, mst_iff h']
  unfold enfC
  rw [for_ext h h' he]
theorem acc_ext {L' : List Nv} (h : NvIn ks V slot L) (h' : NvIn ks V slot L') (he : ∀ v, v ∈ L ↔ v ∈ L') : accC V L = accC V L' := by
  unfold accC
  congr 1
  funext r
  rw [mst_ext h h' he]
/-- whatever comes behind -/
theorem for_mono {L' : List Nv} (hs : ∀ v ∈ L, v ∈ L') (k r : Int) (d : List UInt8) : (forC L k r d).length ≤ (forC L' k r d).length := by
  rw [for_len, for_len]
  refine fil_le (fun i hi => ?_) _
  obtain ⟨v, hv, hp⟩ := List.any_eq_true.1 hi
  exact List.any_eq_true.2 ⟨v, hs v hv, hp⟩
theorem mst_mono {L' : List Nv} (h : NvIn ks V slot L) (h' : NvIn ks V slot L') (hs : ∀ v ∈ L, v ∈ L') {k r : Int} {d : List UInt8} (hm : mstC V L k r = some d) : mstC V L' k r = some d := by
  rw [mst_iff h] at hm
  rw [mst_iff h']
  unfold enfC at hm ⊢
  rw [decide_eq_true_eq] at hm ⊢
  exact ⟨hm.1, Nat.le_trans hm.2 (for_mono hs k r d)⟩
/-- what was kept is kept again, the last first -/
theorem tk_back (h : NvIn ks V slot L) {i : Nat} {v : Nv} (hv : L[i]? = some v) : tkE ks V slot (L.drop (i + 1)).reverse v.b = 0 ∧ tkL ks V slot (L.drop (i + 1)).reverse v.b = (L.drop i).reverse := by
  have hi : i < L.length := (List.getElem?_eq_some_iff.1 hv).1
  have hd : L.drop i = v :: L.drop (i + 1) := by
    rw [List.drop_eq_getElem_cons hi, (List.getElem?_eq_some_iff.1 hv).2]
  have hp : (L.drop i).Pairwise (fun a b => ¬ SV a b) := h.u.sublist (List.drop_sublist _ _)
  rw [hd, List.pairwise_cons] at hp
  have hno : (L.drop (i + 1)).reverse.any (sameV v.m) = false := by
    cases ha : (L.drop (i + 1)).reverse.any (sameV v.m) with
    | false => rfl
    | true =>
      obtain ⟨x, hx, hs⟩ := List.any_eq_true.1 ha
      have hs := of_decide_eq_true hs
      exact absurd ⟨hs.1.symm, hs.2.1.symm, hs.2.2.symm⟩ (hp.1 x (List.mem_reverse.1 hx))
  have ht := h.v v (List.mem_of_getElem? hv)
  unfold tkE tkL
  rw [ht]
  show (if (L.drop (i + 1)).reverse.any (sameV v.m) = true then 7 else 0) = 0 ∧ (if (L.drop (i + 1)).reverse.any (sameV v.m) = true then (L.drop (i + 1)).reverse else (L.drop (i + 1)).reverse ++ [⟨v.m, v.b⟩]) = _
  rw [hno, hd, List.reverse_cons]
  exact ⟨rfl, rfl⟩
theorem tk_kept {X : List UInt8} : (tkE ks V slot L X = 0 ∧ ∃ m, tkL ks V slot L X = L ++ [⟨m, X⟩]) ∨ (tkL ks V slot L X = L) := by
  unfold tkE tkL
  cases tlC ks V slot X with
  | error e => exact .inr rfl
  | ok m =>
    show ((if L.any (sameV m) = true then 7 else 0) = 0 ∧ ∃ m', (if L.any (sameV m) = true then L else L ++ [⟨m, X⟩]) = L ++ [⟨m', X⟩]) ∨ (if L.any (sameV m) = true then L else L ++ [⟨m, X⟩]) = L
    cases L.any (sameV m) with
    | true => exact .inr rfl
    | false => exact .inl ⟨rfl, m, rfl⟩
end Go.Proofs.YthbbpfnfnnmdnaaDoor
/- Cq: layer 17, pure: the message that bytes tell, by its head. No project text. -/
namespace Go.Proofs.YthbbpfnfnnmdnaaDoor
open Go.RowKit Go.V
def fldG (X : List UInt8) : List Nat → Nat → List Nat
  | [], _ => []
  | n :: ns, k => fixN ((X.drop k).take n) :: fldG X ns (k + n)
theorem fld_all (X : List UInt8) : ∀ (ns : List Nat) (k : Nat), (∀ n ∈ ns, okN (n : Int)) → k + ns.sum ≤ X.length → fldR ns k X = .ok (fldG X ns k)
  | [], _, _, _ => rfl
  | n :: ns, k, h, hl => by
    rw [List.sum_cons] at hl
    have ih := fld_all X ns (k + n) (fun m hm => h m (by simp [hm])) (by omega)
    have h1 : fixRd (n : Int) (X.drop k) = .ok (fixN ((X.drop k).take n)) := by
      unfold fixRd
      rw [if_pos (h n (by simp)), Int.toNat_natCast, if_neg (by rw [List.length_drop]; omega)]
    simp only [fldR, h1, ih, fldG]
theorem fld_short (X : List UInt8) : ∀ (ns : List Nat) (k : Nat), (∀ n ∈ ns, okN (n : Int)) → k ≤ X.length → X.length < k + ns.sum → fldR ns k X = .error 1
  | [], k, _, h1, h2 => by simp at h2; omega
  | n :: ns, k, h, h1, h2 => by
    rw [List.sum_cons] at h2
    by_cases hs : X.length < k + n
    · have h3 : fixRd (n : Int) (X.drop k) = .error 1 := by
        unfold fixRd
        rw [if_pos (h n (by simp)), Int.toNat_natCast, if_pos (by rw [List.length_drop]; omega)]
      simp only [fldR, h3]
    · have ih := fld_short X ns (k + n) (fun m hm => h m (by simp [hm])) (by omega) (by omega)
      have h3 : fixRd (n : Int) (X.drop k) = .ok (fixN ((X.drop k).take n)) := by
        unfold fixRd
        rw [if_pos (h n (by simp)), Int.toNat_natCast, if_neg (by rw [List.length_drop]; omega)]
      simp only [fldR, h3, ih]
theorem szs_ok : ∀ n ∈ szs8, okN ((n : Nat) : Int) := by
  intro n hn
  unfold szs8 at hn
  simp only [List.mem_append, List.mem_cons, List.not_mem_nil, or_false, List.mem_replicate] at hn
  unfold okN
  omega
theorem fix_one (c : UInt8) : fixN [c] = c.toNat := by simp [fixN]
theorem fldG_ones (X : List UInt8) : ∀ (n k : Nat), k + n ≤ X.length → (fldG X (List.replicate n 1) k).map UInt8.ofNat = (X.drop k).take n
  | 0, _, _ => rfl
  | n + 1, k, h => by
    have ih := fldG_ones X n (k + 1) (by omega)
    have hd : X.drop k = X[k] :: X.drop (k + 1) := List.drop_eq_getElem_cons (by omega)
    rw [List.replicate_succ]
    simp only [fldG, List.map_cons, ih]
    rw [hd, List.take_succ_cons, List.take_succ_cons, List.take_zero, fix_one]
    congr 1
    exact UInt8.ofNat_toNat
theorem fldG_app (X : List UInt8) : ∀ (a b : List Nat) (k : Nat), fldG X (a ++ b) k = fldG X a k ++ fldG X b (k + a.sum)
  | [], b, k => by simp [fldG]
  | n :: a, b, k => by
    simp only [List.cons_append, fldG, fldG_app X a b (k + n), List.sum_cons, Nat.add_assoc]
/-- a message's head, out of bytes -/
def mkH (X : List UInt8) (b : List UInt8) (ps : List (List UInt8)) : Mg :=
  ⟨((X.getD 0 0).toNat : Int), ((X.getD 1 0).toNat : Int), (fixN ((X.drop 2).take 2) : Int), (fixN ((X.drop 4).take 2) : Int), (fixN ((X.drop 6).take 2) : Int), (X.drop 8).take 32, b, ps⟩
theorem mk_h {X : List UInt8} (h : 40 ≤ X.length) (b : List UInt8) (ps : List (List UInt8)) : mkM (fldG X szs8 0) b ps = mkH X b ps := by
  have e : fldG X szs8 0 = [fixN (X.take 1), fixN ((X.drop 1).take 1), fixN ((X.drop 2).take 2), fixN ((X.drop 4).take 2), fixN ((X.drop 6).take 2)] ++ fldG X (List.replicate 32 1) 8 := by
    unfold szs8
    rw [fldG_app]
    rfl
  have h0 : X.take 1 = [X.getD 0 0] := by
    match X, h with
    | a :: _, _ => rfl
  have h1 : (X.drop 1).take 1 = [X.getD 1 0] := by
    match X, h with
    | a :: c :: _, _ => rfl
  rw [e, h0, h1, fix_one, fix_one]
  unfold mkM mkH
  have h8 : (([(X.getD 0 0).toNat, (X.getD 1 0).toNat, fixN ((X.drop 2).take 2), fixN ((X.drop 4).take 2), fixN ((X.drop 6).take 2)] ++ fldG X (List.replicate 32 1) 8).drop 5).map UInt8.ofNat = (X.drop 8).take 32 := fldG_ones X 32 8 (by omega)
  rw [h8]
  rfl
theorem rd_short {X : List UInt8} (h : X.length < 40) : rdM X = .error 1 := by
  have := fld_short X szs8 0 szs_ok (Nat.zero_le _) (by rw [sum_szs8]; omega)
  unfold rdM
  rw [this]
theorem rd_head {X : List UInt8} (h : 40 ≤ X.length) : rdM X = match textR 65536 (X.drop 40) with
    | .error e => .error e
    | .ok (n, z) => match cntR 16 (readPk (X.drop (40 + (z + n)))) with
      | .error e => .error e
      | .ok (c, y) => match prtR c (40 + (z + n) + y) X with
        | .error e => .error e
        | .ok (ts, k) => if k < X.length then .error 2 else if numB (mkH X (((X.drop 40).drop z).take n) ts) = true then .ok (mkH X (((X.drop 40).drop z).take n) ts) else .error 15 := by
  have := fld_all X szs8 0 szs_ok (by rw [sum_szs8]; omega)
  unfold rdM
  rw [this]
  simp only [mk_h h]
  cases textR 65536 (X.drop 40) with
  | error e => rfl
  | ok r =>
    obtain ⟨n, z⟩ := r
    dsimp only
    cases cntR 16 (readPk (X.drop (40 + (z + n)))) with
    | error e => rfl
    | ok r =>
      obtain ⟨c, y⟩ := r
      dsimp only
      cases prtR c (40 + (z + n) + y) X with
      | error e => rfl
      | ok r => rfl
theorem nb_fix (b : List UInt8) (k : Nat) : ∀ n, k + n ≤ b.length → nb b k n = fixN ((b.drop k).take n)
  | 0, _ => rfl
  | n + 1, h => by
    have ih := nb_fix b k n (by omega)
    have e : (b.drop k).take (n + 1) = (b.drop k).take n ++ [b.getD (k + n) 0] := by
      rw [List.take_add_one, List.getElem?_drop, List.getD_eq_getElem?_getD, List.getElem?_eq_getElem (by omega)]
      rfl
    rw [e, fixN_snoc, nb, ih, Nat.mul_comm]
end Go.Proofs.YthbbpfnfnnmdnaaDoor
