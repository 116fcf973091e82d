/- Kp: several texts in one (Cp Kp). -/
import Derived.Test.YtmjpkdehkdpdpaaDoorZ1
import Derived.Test.YtmjpkdehkdpdpaaDoorW3
/- Cp: layer 17, pure: what votes prove. No project text. -/
namespace Go.Proofs.YtmjpkdehkdpdpaaDoor
open Go.RowKit Go.V
/-- a view's number and its members -/
structure Vc where
  n : Int
  m : Nat
/-- what is asked: kind, view, regency, slot, digest -/
structure Qc where
  k : Int
  v : Int
  r : Int
  s : Int
  h : List UInt8
def opOf (ks : List (List UInt8)) (V : Vc) (X : List UInt8) : Except Nat Mg := match opR ks X with
  | .ok m => if hasB V.m m.f = true then .ok m else .error 6
  | .error e => .error e
/-- whose vote a part is, if it counts -/
def cntC (ks : List (List UInt8)) (V : Vc) (q : Qc) (X : List UInt8) : Option Nat := match opOf ks V X with
  | .ok m => if m.v = V.n ∧ m.k = q.k ∧ m.v = q.v ∧ m.r = q.r ∧ m.s = q.s ∧ m.h = q.h then some m.f.toNat else none
  | .error _ => none
def isC (ks : List (List UInt8)) (V : Vc) (q : Qc) (i : Nat) (X : List UInt8) : Bool := decide (cntC ks V q X = some i)
def whoC (ks : List (List UInt8)) (V : Vc) (q : Qc) (P : List (List UInt8)) : List Nat := (List.range 16).filter (fun i => P.any (isC ks V q i))
def pickC (ks : List (List UInt8)) (V : Vc) (q : Qc) (P : List (List UInt8)) : List (List UInt8) := (List.range 16).filterMap (fun i => P.find? (isC ks V q i))
def enC (ks : List (List UInt8)) (V : Vc) (q : Qc) (P : List (List UInt8)) : Bool := decide (quoN V.n V.m ≤ (whoC ks V q P).length)
def okC (V : Vc) (P : List (List UInt8)) : Bool := rgt V.n V.m && decide (P.length ≤ 16)
def wriC (ks : List (List UInt8)) (V : Vc) (r s : Int) (h : List UInt8) (P : List (List UInt8)) : Int := if okC V P = true ∧ enC ks V ⟨2, V.n, r, s, h⟩ P = true then 0 else 12
/-- the least regency of those that are asked -/
def leaC (ks : List (List UInt8)) (V : Vc) (s : Int) (h : List UInt8) (P : List (List UInt8)) : Option Nat := (List.range 41).find? (fun r => enC ks V ⟨3, V.n, (r : Int), s, h⟩ P)
def decC (ks : List (List UInt8)) (V : Vc) (s : Int) (h : List UInt8) (P : List (List UInt8)) : Int × Int := if okC V P = true then (match leaC ks V s h P with | some r => ((r : Int), 0) | none => (0, 12)) else (0, 12)
/-! what follows -/
theorem cnt_mem {ks : List (List UInt8)} {V : Vc} {q : Qc} {X : List UInt8} {i : Nat} (h : cntC ks V q X = some i) : i < 16 ∧ mbit V.m i = true := by
  unfold cntC at h
  split at h
  · rename_i m hm
    split at h
    · injection h with h
      unfold opOf at hm
      split at hm
      · split at hm
        · rename_i m' _ hb
          injection hm with hm
          subst hm
          unfold hasB at hb
          rw [Bool.and_eq_true, decide_eq_true_eq] at hb
          rw [← h]
          exact ⟨by omega, hb.2⟩
        · cases hm
      · cases hm
    · cases h
  · cases h
theorem who_mem {ks : List (List UInt8)} {V : Vc} {q : Qc} {P : List (List UInt8)} {i : Nat} : i ∈ whoC ks V q P ↔ i < 16 ∧ ∃ X ∈ P, cntC ks V q X = some i := by
  unfold whoC
  rw [List.mem_filter, List.mem_range, List.any_eq_true]
  constructor
  · rintro ⟨h1, X, hX, h2⟩
    exact ⟨h1, X, hX, of_decide_eq_true h2⟩
  · rintro ⟨h1, X, hX, h2⟩
    exact ⟨h1, X, hX, decide_eq_true h2⟩
theorem who_nodup (ks : List (List UInt8)) (V : Vc) (q : Qc) (P : List (List UInt8)) : (whoC ks V q P).Nodup := List.nodup_range.sublist List.filter_sublist
theorem who_len (ks : List (List UInt8)) (V : Vc) (q : Qc) (P : List (List UInt8)) : (whoC ks V q P).length ≤ 16 := by
  have := (List.filter_sublist (p := fun i => P.any (isC ks V q i)) (l := List.range 16)).length_le
  rw [List.length_range] at this
  exact this
theorem fil_le {p p' : Nat → Bool} (h : ∀ i, p i = true → p' i = true) : ∀ (l : List Nat), (l.filter p).length ≤ (l.filter p').length
  | [] => Nat.le_refl _
  | i :: l => by
    have ih := fil_le h l
    rw [List.filter_cons, List.filter_cons]
    split
    · rename_i hp
      rw [if_pos (h i hp), List.length_cons, List.length_cons]
      omega
    · split
      · rw [List.length_cons]; omega
      · exact ih
/-- more parts: no fewer members -/
theorem who_le {ks : List (List UInt8)} {V : Vc} {q : Qc} {P P' : List (List UInt8)} (h : ∀ X ∈ P, X ∈ P') : (whoC ks V q P).length ≤ (whoC ks V q P').length := by
  refine fil_le (fun i hi => ?_) _
  rw [List.any_eq_true] at hi ⊢
  obtain ⟨X, hX, h2⟩ := hi
  exact ⟨X, h X hX, h2⟩
theorem en_mono {ks : List (List UInt8)} {V : Vc} {q : Qc} {P P' : List (List UInt8)} (h : ∀ X ∈ P, X ∈ P') (he : enC ks V q P = true) : enC ks V q P' = true := by
  unfold enC at he ⊢
  rw [decide_eq_true_eq] at he ⊢
  exact Nat.le_trans he (who_le h)
theorem pick_sub {ks : List (List UInt8)} {V : Vc} {q : Qc} {P : List (List UInt8)} : ∀ X ∈ pickC ks V q P, X ∈ P := by
  intro X hX
  unfold pickC at hX
  rw [List.mem_filterMap] at hX
  obtain ⟨i, _, h⟩ := hX
  exact List.mem_of_find?_eq_some h
theorem pick_len (ks : List (List UInt8)) (V : Vc) (q : Qc) (P : List (List UInt8)) : (pickC ks V q P).length ≤ 16 := by
  have := List.length_filterMap_le (fun i => P.find? (isC ks V q i)) (List.range 16)
  rw [List.length_range] at this
  exact this
/-- those that are picked are voted by as many -/
theorem pick_who {ks : List (List UInt8)} {V : Vc} {q : Qc} {P : List (List UInt8)} : (whoC ks V q P).length ≤ (whoC ks V q (pickC ks V q P)).length := by
  refine fil_le (fun i hi => ?_) _
  rw [List.any_eq_true] at hi ⊢
  obtain ⟨X, hX, h2⟩ := hi
  have h1 := (cnt_mem (of_decide_eq_true h2)).1
  have hf : (P.find? (isC ks V q i)).isSome = true := by
    rw [List.find?_isSome]
    exact ⟨X, hX, h2⟩
  obtain ⟨Y, hY⟩ := Option.isSome_iff_exists.1 hf
  refine ⟨Y, ?_, List.find?_some hY⟩
  unfold pickC
  rw [List.mem_filterMap]
  exact ⟨i, List.mem_range.2 h1, hY⟩
theorem pick_en {ks : List (List UInt8)} {V : Vc} {q : Qc} {P : List (List UInt8)} (he : enC ks V q P = true) : enC ks V q (pickC ks V q P) = true := by
  unfold enC at he ⊢
  rw [decide_eq_true_eq] at he ⊢
  exact Nat.le_trans he pick_who
theorem fil_share {pa pb pm : Nat → Bool} (ha : ∀ i, pa i = true → pm i = true) (hb : ∀ i, pb i = true → pm i = true) : ∀ (l : List Nat), (l.filter pa).length + (l.filter pb).length ≤ (l.filter (fun i => pa i && pb i)).length + (l.filter pm).length
  | [] => Nat.le_refl _
  | i :: l => by
    have ih := fil_share ha hb l
    have h1 := ha i
    have h2 := hb i
    simp only [List.filter_cons]
    cases hpa : pa i <;> cases hpb : pb i <;> cases hpm : pm i <;> simp_all <;> omega
/-- those that vote for both -/
def bothC (A B : List Nat) : List Nat := A.filter (fun i => B.contains i)
theorem who_share {ks : List (List UInt8)} {V : Vc} {q q' : Qc} {P P' : List (List UInt8)} (hr : rgt V.n V.m = true) (h : enC ks V q P = true) (h' : enC ks V q' P' = true) : fltN V.n V.m < (bothC (whoC ks V q P) (whoC ks V q' P')).length := by
  have hs := fil_share (pa := fun i => P.any (isC ks V q i)) (pb := fun i => P'.any (isC ks V q' i)) (pm := mbit V.m)
    (fun i hi => by rw [List.any_eq_true] at hi; obtain ⟨X, _, h2⟩ := hi; exact (cnt_mem (of_decide_eq_true h2)).2)
    (fun i hi => by rw [List.any_eq_true] at hi; obtain ⟨X, _, h2⟩ := hi; exact (cnt_mem (of_decide_eq_true h2)).2) (List.range 16)
  have hm : ((List.range 16).filter (mbit V.m)).length = szM V.m := rfl
  have he : bothC (whoC ks V q P) (whoC ks V q' P') = (List.range 16).filter (fun i => P.any (isC ks V q i) && P'.any (isC ks V q' i)) := by
    unfold bothC
    have e1 : whoC ks V q P = (List.range 16).filter (fun i => P.any (isC ks V q i)) := rfl
    rw [e1, List.filter_filter]
    apply List.filter_congr
    intro i hi
    rw [Bool.and_comm]
    congr 1
    rw [Bool.eq_iff_iff, List.contains_iff_mem]
    have e2 : whoC ks V q' P' = (List.range 16).filter (fun i => P'.any (isC ks V q' i)) := rfl
    rw [e2, List.mem_filter]
    exact ⟨fun h => h.2, fun h => ⟨hi, h⟩⟩
  unfold enC at h h'
  rw [decide_eq_true_eq] at h h'
  have e1 : (whoC ks V q P).length = ((List.range 16).filter (fun i => P.any (isC ks V q i))).length := rfl
  have e2 : (whoC ks V q' P').length = ((List.range 16).filter (fun i => P'.any (isC ks V q' i))).length := rfl
  have hq : quoN V.n V.m = (szM V.m + fltN V.n V.m) / 2 + 1 := by unfold quoN; rw [if_pos hr]
  rw [he]
  omega
/-! the regency that is told -/
theorem lea_some {ks : List (List UInt8)} {V : Vc} {s : Int} {h : List UInt8} {P : List (List UInt8)} {r : Nat} (hl : leaC ks V s h P = some r) : r ≤ 40 ∧ enC ks V ⟨3, V.n, (r : Int), s, h⟩ P = true ∧ ∀ n, n < r → enC ks V ⟨3, V.n, (n : Int), s, h⟩ P = false := by
  unfold leaC at hl
  rw [List.find?_range_eq_some] at hl
  obtain ⟨h1, h2, h3⟩ := hl
  exact ⟨by have := List.mem_range.1 h2; omega, h1, fun n hn => by have := h3 n hn; simpa using this⟩
theorem lea_of {ks : List (List UInt8)} {V : Vc} {s : Int} {h : List UInt8} {P : List (List UInt8)} {r : Nat} (h40 : r ≤ 40) (he : enC ks V ⟨3, V.n, (r : Int), s, h⟩ P = true) (hn : ∀ n, n < r → enC ks V ⟨3, V.n, (n : Int), s, h⟩ P = false) : leaC ks V s h P = some r := by
  unfold leaC
  rw [List.find?_range_eq_some]
  exact ⟨he, List.mem_range.2 (by omega), fun n hn' => by rw [hn n hn']; rfl⟩
/-- with just those that are picked it is told again -/
theorem lea_pick {ks : List (List UInt8)} {V : Vc} {s : Int} {h : List UInt8} {P : List (List UInt8)} {r : Nat} (hl : leaC ks V s h P = some r) : leaC ks V s h (pickC ks V ⟨3, V.n, (r : Int), s, h⟩ P) = some r := by
  obtain ⟨h1, h2, h3⟩ := lea_some hl
  refine lea_of h1 (pick_en h2) (fun n hn => ?_)
  cases he : enC ks V ⟨3, V.n, (n : Int), s, h⟩ (pickC ks V ⟨3, V.n, (r : Int), s, h⟩ P) with
  | false => rfl
  | true =>
    have := en_mono (P' := P) pick_sub he
    rw [h3 n hn] at this
    cases this
end Go.Proofs.YtmjpkdehkdpdpaaDoor
/- Kp: layer 18, pure: votes of one slot. No project text. -/
namespace Go.Proofs.YtmjpkdehkdpdpaaDoor
open Go.RowKit Go.V
/-- a vote that is kept: what it says, its bytes -/
structure Nv where
  m : Mg
  b : List UInt8
/-- what a part says, or why it is refused -/
def tlC (ks : List (List UInt8)) (V : Vc) (slot : Int) (X : List UInt8) : Except Nat Mg := match opOf ks V X with
  | .error e => .error e
  | .ok m => if m.k ≠ 2 ∧ m.k ≠ 3 then .error 15 else if m.v ≠ V.n then .error 9 else if m.s ≠ slot then .error 8 else .ok m
def sameV (m : Mg) (v : Nv) : Bool := decide (v.m.f = m.f ∧ v.m.k = m.k ∧ v.m.r = m.r)
def tkE (ks : List (List UInt8)) (V : Vc) (slot : Int) (L : List Nv) (X : List UInt8) : Nat := match tlC ks V slot X with
  | .error e => e
  | .ok m => if L.any (sameV m) = true then 7 else 0
def tkL (ks : List (List UInt8)) (V : Vc) (slot : Int) (L : List Nv) (X : List UInt8) : List Nv := match tlC ks V slot X with
  | .error _ => L
  | .ok m => if L.any (sameV m) = true then L else L ++ [⟨m, X⟩]
def isV (k r : Int) (h : List UInt8) (i : Nat) (v : Nv) : Bool := decide (v.m.f = (i : Int) ∧ v.m.k = k ∧ v.m.r = r ∧ v.m.h = h)
/-- the votes of a kind, a regency and a digest, by rising members -/
def forC (L : List Nv) (k r : Int) (h : List UInt8) : List (List UInt8) := (List.range 16).filterMap (fun i => (L.find? (isV k r h i)).map Nv.b)
/-- who cast them -/
def memC (L : List Nv) (k r : Int) (h : List UInt8) : List Nat := (List.range 16).filter (fun i => L.any (isV k r h i))
def enfC (V : Vc) (L : List Nv) (k r : Int) (h : List UInt8) : Bool := decide (0 < quoN V.n V.m ∧ quoN V.n V.m ≤ (forC L k r h).length)
/-- the digest for which a quorum votes -/
def mstC (V : Vc) (L : List Nv) (k r : Int) : Option (List UInt8) := (L.find? (fun v => decide (v.m.k = k ∧ v.m.r = r) && enfC V L k r v.m.h)).map (fun v => v.m.h)
/-- the least regency in which one is accepted -/
def accC (V : Vc) (L : List Nv) : Option Nat := (List.range 41).find? (fun (r : Nat) => (mstC V L 3 (r : Int)).isSome)
def SV (a b : Nv) : Prop := a.m.f = b.m.f ∧ a.m.k = b.m.k ∧ a.m.r = b.m.r
/-- what holds of the votes that are kept -/
structure NvIn (ks : List (List UInt8)) (V : Vc) (slot : Int) (L : List Nv) : Prop where
  v : ∀ v ∈ L, tlC ks V slot v.b = .ok v.m
  u : L.Pairwise (fun a b => ¬ SV a b)
theorem NvIn.nil (ks : List (List UInt8)) (V : Vc) (slot : Int) : NvIn ks V slot [] := ⟨fun v h => by simp at h, List.Pairwise.nil⟩
variable {ks : List (List UInt8)} {V : Vc} {slot : Int} {L : List Nv}
theorem any_same {m : Mg} (h : L.any (sameV m) = false) : ∀ v ∈ L, ¬ (v.m.f = m.f ∧ v.m.k = m.k ∧ v.m.r = m.r) := fun v hv hs => by
  have : L.any (sameV m) = true := List.any_eq_true.2 ⟨v, hv, decide_eq_true hs⟩
  rw [h] at this
  cases this
theorem tk_in (h : NvIn ks V slot L) (X : List UInt8) : NvIn ks V slot (tkL ks V slot L X) := by
  unfold tkL
  cases ht : tlC ks V slot X with
  | error e => exact h
  | ok m =>
    show NvIn ks V slot (if L.any (sameV m) = true then L else L ++ [⟨m, X⟩])
    cases ha : L.any (sameV m) with
    | true => exact h
    | false =>
      refine ⟨fun v hv => ?_, ?_⟩
      · rcases List.mem_append.1 hv with hv | hv
        · exact h.v v hv
        · rw [List.mem_singleton.1 hv]; exact ht
      · show (L ++ [_]).Pairwise _
        rw [List.pairwise_append]
        refine ⟨h.u, List.pairwise_singleton _ _, fun a ha' b hb hs => ?_⟩
        rw [List.mem_singleton.1 hb] at hs
        exact any_same ha a ha' hs
theorem tk_sub (X : List UInt8) : ∀ v ∈ L, v ∈ tkL ks V slot L X := fun v hv => by
  unfold tkL
  cases tlC ks V slot X with
  | error e => exact hv
  | ok m =>
    show v ∈ (if L.any (sameV m) = true then L else L ++ [⟨m, X⟩])
    cases L.any (sameV m) with
    | true => exact hv
    | false => exact List.mem_append_left _ hv
theorem pw_uniq {R : Nv → Nv → Prop} (hs : ∀ a b, R a b → R b a) : ∀ {L : List Nv}, L.Pairwise R → ∀ a ∈ L, ∀ b ∈ L, ¬ R a b → a = b
  | [], _, a, ha, _, _, _ => by simp at ha
  | x :: L, h, a, ha, b, hb, hn => by
    rw [List.pairwise_cons] at h
    rcases List.mem_cons.1 ha with e1 | ha2
    · rcases List.mem_cons.1 hb with e2 | hb2
      · rw [e1, e2]
      · rw [e1] at hn; exact absurd (h.1 b hb2) hn
    · rcases List.mem_cons.1 hb with e2 | hb2
      · rw [e2] at hn; exact absurd (hs _ _ (h.1 a ha2)) hn
      · exact pw_uniq hs h.2 a ha2 b hb2 hn
theorem NvIn.one (h : NvIn ks V slot L) {a b : Nv} (ha : a ∈ L) (hb : b ∈ L) (hs : SV a b) : a = b :=
  pw_uniq (fun _ _ h1 h2 => h1 ⟨h2.1.symm, h2.2.1.symm, h2.2.2.symm⟩) h.u a ha b hb (fun hn => hn hs)
theorem find_one {p : Nv → Bool} (hu : ∀ a ∈ L, ∀ b ∈ L, p a = true → p b = true → a = b) {v : Nv} : L.find? p = some v ↔ v ∈ L ∧ p v = true := by
  constructor
  · intro h
    exact ⟨List.mem_of_find?_eq_some h, List.find?_some h⟩
  · rintro ⟨hv, hp⟩
    cases hf : L.find? p with
    | none => exact absurd hp (by rw [List.find?_eq_none] at hf; exact hf v hv)
    | some v' => rw [hu v' (List.mem_of_find?_eq_some hf) v hv (List.find?_some hf) hp]
theorem NvIn.fnd (h : NvIn ks V slot L) (k r : Int) (d : List UInt8) (i : Nat) {v : Nv} : L.find? (isV k r d i) = some v ↔ v ∈ L ∧ isV k r d i v = true :=
  find_one (fun a ha b hb h1 h2 => by
    have h1 := of_decide_eq_true h1
    have h2 := of_decide_eq_true h2
    exact h.one ha hb ⟨h1.1.trans h2.1.symm, h1.2.1.trans h2.2.1.symm, h1.2.2.1.trans h2.2.2.1.symm⟩)
theorem mem_for {k r : Int} {d X : List UInt8} (hX : X ∈ forC L k r d) : ∃ i v, i < 16 ∧ v ∈ L ∧ isV k r d i v = true ∧ v.b = X := by
  unfold forC at hX
  rw [List.mem_filterMap] at hX
  obtain ⟨i, hi, he⟩ := hX
  rw [Option.map_eq_some_iff] at he
  obtain ⟨v, hv, hb⟩ := he
  exact ⟨i, v, List.mem_range.1 hi, List.mem_of_find?_eq_some hv, List.find?_some hv, hb⟩
theorem fmK_len {α β : Type} (f : α → Option β) (p : α → Bool) (h : ∀ a, (f a).isSome = p a) : ∀ l : List α, (l.filterMap f).length = (l.filter p).length
  | [] => rfl
  | a :: l => by
    have ih := fmK_len f p h l
    have ha := h a
    rw [List.filterMap_cons, List.filter_cons]
    cases hf : f a with
    | none => rw [hf] at ha; rw [← ha]; simpa using ih
    | some b => rw [hf] at ha; rw [← ha]; simpa using ih
theorem for_len (L : List Nv) (k r : Int) (d : List UInt8) : (forC L k r d).length = (memC L k r d).length := by
  unfold forC memC
  refine fmK_len _ _ (fun i => ?_) _
  rw [Option.isSome_map]
  cases hf : L.find? (isV k r d i) with
  | none =>
    rw [List.find?_eq_none] at hf
    cases ha : L.any (isV k r d i) with
    | false => rfl
    | true =>
      obtain ⟨v, hv, hp⟩ := List.any_eq_true.1 ha
      exact absurd hp (hf v hv)
  | some v =>
    have : L.any (isV k r d i) = true := List.any_eq_true.2 ⟨v, List.mem_of_find?_eq_some hf, List.find?_some hf⟩
    rw [this]; rfl
theorem for_le (L : List Nv) (k r : Int) (d : List UInt8) : (forC L k r d).length ≤ 16 := by
  have := List.length_filterMap_le (fun i => (L.find? (isV k r d i)).map Nv.b) (List.range 16)
  rw [List.length_range] at this
  exact this
/-- what is told of a vote that is kept -/
theorem tl_ok {X : List UInt8} {m : Mg} (h : tlC ks V slot X = .ok m) : opOf ks V X = .ok m ∧ (m.k = 2 ∨ m.k = 3) ∧ m.v = V.n ∧ m.s = slot := by
  unfold tlC at h
  split at h
  · cases h
  · rename_i m' ho
    split at h
    · cases h
    · rename_i h1
      split at h
      · cases h
      · rename_i h2
        split at h
        · cases h
        · rename_i h3
          injection h with h
          subst h
          exact ⟨ho, by omega, Classical.not_not.1 h2, Classical.not_not.1 h3⟩
theorem op_mem {X : List UInt8} {m : Mg} (h : opOf ks V X = .ok m) : 0 ≤ m.f ∧ m.f < 16 ∧ mbit V.m m.f.toNat = true := by
  unfold opOf at h
  split at h
  · rename_i m' _
    split at h
    · rename_i hb
      injection h with h
      subst h
      unfold hasB at hb
      rw [Bool.and_eq_true, decide_eq_true_eq] at hb
      exact ⟨hb.1.1, hb.1.2, hb.2⟩
    · cases h
  · cases h
theorem NvIn.mem (h : NvIn ks V slot L) {v : Nv} (hv : v ∈ L) : 0 ≤ v.m.f ∧ v.m.f < 16 ∧ mbit V.m v.m.f.toNat = true := op_mem (tl_ok (h.v v hv)).1
/-- whose vote a kept part is, and for what it counts -/
theorem NvIn.cnt (h : NvIn ks V slot L) {v : Nv} (hv : v ∈ L) (k r : Int) (d : List UInt8) : cntC ks V ⟨k, V.n, r, slot, d⟩ v.b = if v.m.k = k ∧ v.m.r = r ∧ v.m.h = d then some v.m.f.toNat else none := by
  obtain ⟨ho, _, hn, hs⟩ := tl_ok (h.v v hv)
  unfold cntC
  rw [ho]
  show (if v.m.v = V.n ∧ v.m.k = k ∧ v.m.v = V.n ∧ v.m.r = r ∧ v.m.s = slot ∧ v.m.h = d then some v.m.f.toNat else none) = _
  by_cases hc : v.m.k = k ∧ v.m.r = r ∧ v.m.h = d
  · rw [if_pos hc, if_pos ⟨hn, hc.1, hn, hc.2.1, hs, hc.2.2⟩]
  · rw [if_neg hc, if_neg (fun hx => hc ⟨hx.2.1, hx.2.2.2.1, hx.2.2.2.2.2⟩)]
theorem who_for (h : NvIn ks V slot L) (k r : Int) (d : List UInt8) : whoC ks V ⟨k, V.n, r, slot, d⟩ (forC L k r d) = memC L k r d := by
  unfold whoC memC
  apply List.filter_congr
  intro i hi
  rw [Bool.eq_iff_iff, List.any_eq_true, List.any_eq_true]
  constructor
  · rintro ⟨X, hX, hc⟩
    obtain ⟨j, v, _, hv, hp, rfl⟩ := mem_for hX
    have hc := of_decide_eq_true hc
    have hp' := of_decide_eq_true hp
    rw [h.cnt hv, if_pos hp'.2] at hc
    injection hc with hc
    have := (h.mem hv).1
    exact ⟨v, hv, decide_eq_true ⟨by omega, hp'.2⟩⟩
  · rintro ⟨v, hv, hp⟩
    have hp' := of_decide_eq_true hp
    refine ⟨v.b, ?_, decide_eq_true (by rw [h.cnt hv, if_pos hp'.2, hp'.1]; rfl)⟩
    unfold forC
    rw [List.mem_filterMap]
    exact ⟨i, hi, by rw [(h.fnd k r d i).2 ⟨hv, hp⟩]; rfl⟩
theorem enf_iff {k r : Int} {d : List UInt8} : enfC V L k r d = true ↔ 0 < quoN V.n V.m ∧ quoN V.n V.m ≤ (memC L k r d).length := by
  unfold enfC
  rw [decide_eq_true_eq, for_len]
theorem quo_rgt {n : Int} {M : Nat} (h : 0 < quoN n M) : rgt n M = true ∧ szM M < 2 * quoN n M := by
  unfold quoN at h ⊢
  by_cases hr : rgt n M = true
  · rw [if_pos hr] at h ⊢; exact ⟨hr, by omega⟩
  · rw [if_neg hr] at h; omega
theorem fil_two {pa pb pm : Nat → Bool} (hd : ∀ i, pa i = true → pb i = true → False) (ha : ∀ i, pa i = true → pm i = true) (hb : ∀ i, pb i = true → pm i = true) : ∀ (l : List Nat), (l.filter pa).length + (l.filter pb).length ≤ (l.filter pm).length
  | [] => Nat.le_refl _
  | i :: l => by
    have ih := fil_two hd ha hb l
    have h0 := hd i
    have h1 := ha i
    have h2 := hb i
    simp only [List.filter_cons]
    cases hpa : pa i <;> cases hpb : pb i <;> cases hpm : pm i <;> simp_all <;> omega
/-- never more than one digest -/
theorem enf_one (h : NvIn ks V slot L) {k r : Int} {d d' : List UInt8} (h1 : enfC V L k r d = true) (h2 : enfC V L k r d' = true) : d = d' := by
  rw [enf_iff] at h1 h2
  have hq := (quo_rgt h1.1).2
  apply Classical.byContradiction
  intro hne
  have hpm : ∀ (e : List UInt8) (i : Nat), L.any (isV k r e i) = true → mbit V.m i = true := fun e i hi => by
    obtain ⟨v, hv, hp⟩ := List.any_eq_true.1 hi
    have hp := (of_decide_eq_true hp).1
    have := (h.mem hv).2.2
    rw [hp] at this
    exact this
  have := fil_two (pa := fun i => L.any (isV k r d i)) (pb := fun i => L.any (isV k r d' i)) (pm := mbit V.m) (fun i ha hb => by
    obtain ⟨v, hv, hp⟩ := List.any_eq_true.1 ha
    obtain ⟨v', hv', hp'⟩ := List.any_eq_true.1 hb
    have hp := of_decide_eq_true hp
    have hp' := of_decide_eq_true hp'
    have he := h.one hv hv' ⟨hp.1.trans hp'.1.symm, hp.2.1.trans hp'.2.1.symm, hp.2.2.1.trans hp'.2.2.1.symm⟩
    subst he
    exact hne (hp.2.2.2.symm.trans hp'.2.2.2)) (hpm d) (hpm d') (List.range 16)
  have e1 : (memC L k r d).length = ((List.range 16).filter (fun i => L.any (isV k r d i))).length := rfl
  have e2 : (memC L k r d').length = ((List.range 16).filter (fun i => L.any (isV k r d' i))).length := rfl
  have e3 : szM V.m = ((List.range 16).filter (mbit V.m)).length := rfl
  omega
theorem mst_iff (h : NvIn ks V slot L) {k r : Int} {d : List UInt8} : mstC V L k r = some d ↔ enfC V L k r d = true := by
  unfold mstC
  rw [Option.map_eq_some_iff]
  constructor
  · rintro ⟨v, hf, rfl⟩
    have := List.find?_some hf
    rw [Bool.and_eq_true] at this
    exact this.2
  · intro he
    have h1 := enf_iff.1 he
    have hne : memC L k r d ≠ [] := fun h0 => by rw [h0] at h1; simp at h1; omega
    obtain ⟨i, hi⟩ := List.exists_mem_of_ne_nil _ hne
    unfold memC at hi
    obtain ⟨_, hi⟩ := List.mem_filter.1 hi
    obtain ⟨v, hv, hp⟩ := List.any_eq_true.1 hi
    have hp := of_decide_eq_true hp
    cases hf : L.find? (fun v => decide (v.m.k = k ∧ v.m.r = r) && enfC V L k r v.m.h) with
    | none =>
      rw [List.find?_eq_none] at hf
      exact absurd (by rw [Bool.and_eq_true]; exact ⟨decide_eq_true ⟨hp.2.1, hp.2.2.1⟩, by rw [hp.2.2.2]; exact he⟩) (hf v hv)
    | some v' =>
      have := List.find?_some hf
      rw [Bool.and_eq_true] at this
      exact ⟨v', rfl, enf_one h this.2 he⟩
/-- what is told that a quorum wrote is proof of it -/
theorem mst_wri (h : NvIn ks V slot L) {r : Int} {d : List UInt8} (hm : mstC V L 2 r = some d) : wriC ks V r slot d (forC L 2 r d) = 0 := by
  have he := enf_iff.1 ((mst_iff h).1 hm)
  unfold wriC
  refine if_pos ⟨?_, ?_⟩
  · unfold okC
    rw [Bool.and_eq_true, decide_eq_true_eq]
    exact ⟨(quo_rgt he.1).1, for_le _ _ _ _⟩
  · unfold enC
    rw [decide_eq_true_eq, who_for h]
    exact he.2
theorem acc_some {r : Nat} (ha : accC V L = some r) : r ≤ 40 ∧ ∃ d, mstC V L 3 (r : Int) = some d := by
  unfold accC at ha
  have h1 := List.mem_range.1 (List.mem_of_find?_eq_some ha)
  have h2 := List.find?_some ha
  obtain ⟨d, hd⟩ := Option.isSome_iff_exists.1 h2
  exact ⟨by omega, d, hd⟩
/-- what is told that a quorum accepted is proof of it -/
theorem acc_dec (h : NvIn ks V slot L) {r : Nat} {d : List UInt8} (h40 : r ≤ 40) (hm : mstC V L 3 (r : Int) = some d) : decC ks V slot d (forC L 3 (r : Int) d) = ((r : Int), 0) := by
  have he := enf_iff.1 ((mst_iff h).1 hm)
  have hl : leaC ks V slot d (forC L 3 (r : Int) d) = some r := by
    refine lea_of h40 ?_ (fun n hn => ?_)
    · unfold enC
      rw [decide_eq_true_eq, who_for h]
      exact he.2
    · unfold enC
      rw [decide_eq_false_iff_not]
      have h0 : whoC ks V ⟨3, V.n, (n : Int), slot, d⟩ (forC L 3 (r : Int) d) = [] := by
        apply List.eq_nil_iff_forall_not_mem.2
        intro i hi
        obtain ⟨_, X, hX, hc⟩ := who_mem.1 hi
        obtain ⟨j, v, _, hv, hp, rfl⟩ := mem_for hX
        have hp := of_decide_eq_true hp
        rw [h.cnt hv, if_neg (fun hx => by have := hx.2.1; have := hp.2.2.1; omega)] at hc
        cases hc
      rw [h0]
      show ¬ quoN V.n V.m ≤ 0
      omega
  unfold decC
  have hok : okC V (forC L 3 (r : Int) d) = true := by
    unfold okC
    rw [Bool.and_eq_true, decide_eq_true_eq]
    exact ⟨(quo_rgt he.1).1, for_le _ _ _ _⟩
  rw [if_pos hok, hl]
/-- in whatever order -/
theorem for_ext {L' : List Nv} (h : NvIn ks V slot L) (h' : NvIn ks V slot L') (he : ∀ v, v ∈ L ↔ v ∈ L') (k r : Int) (d : List UInt8) : forC L k r d = forC L' k r d := by
  unfold forC
  congr 1
  funext i
  have : L.find? (isV k r d i) = L'.find? (isV k r d i) := by
    apply Option.ext
    intro v
    rw [h.fnd, h'.fnd, he]
  rw [this]
theorem mst_ext {L' : List Nv} (h : NvIn ks V slot L) (h' : NvIn ks V slot L') (he : ∀ v, v ∈ L ↔ v ∈ L') (k r : Int) : mstC V L k r = mstC V L' k r := by
  apply Option.ext
  intro d
  rw [mst_iff h, mst_iff h']
  unfold enfC
  rw [for_ext h h' he]
theorem acc_ext {L' : List Nv} (h : NvIn ks V slot L) (h' : NvIn ks V slot L') (he : ∀ v, v ∈ L ↔ v ∈ L') : accC V L = accC V L' := by
  unfold accC
  congr 1
  funext r
  rw [mst_ext h h' he]
/-- whatever comes behind -/
theorem for_mono {L' : List Nv} (hs : ∀ v ∈ L, v ∈ L') (k r : Int) (d : List UInt8) : (forC L k r d).length ≤ (forC L' k r d).length := by
  rw [for_len, for_len]
  refine fil_le (fun i hi => ?_) _
  obtain ⟨v, hv, hp⟩ := List.any_eq_true.1 hi
  exact List.any_eq_true.2 ⟨v, hs v hv, hp⟩
theorem mst_mono {L' : List Nv} (h : NvIn ks V slot L) (h' : NvIn ks V slot L') (hs : ∀ v ∈ L, v ∈ L') {k r : Int} {d : List UInt8} (hm : mstC V L k r = some d) : mstC V L' k r = some d := by
  rw [mst_iff h] at hm
  rw [mst_iff h']
  unfold enfC at hm ⊢
  rw [decide_eq_true_eq] at hm ⊢
  exact ⟨hm.1, Nat.le_trans hm.2 (for_mono hs k r d)⟩
/-- what was kept is kept again, the last first -/
theorem tk_back (h : NvIn ks V slot L) {i : Nat} {v : Nv} (hv : L[i]? = some v) : tkE ks V slot (L.drop (i + 1)).reverse v.b = 0 ∧ tkL ks V slot (L.drop (i + 1)).reverse v.b = (L.drop i).reverse := by
  have hi : i < L.length := (List.getElem?_eq_some_iff.1 hv).1
  have hd : L.drop i = v :: L.drop (i + 1) := by
    rw [List.drop_eq_getElem_cons hi, (List.getElem?_eq_some_iff.1 hv).2]
  have hp : (L.drop i).Pairwise (fun a b => ¬ SV a b) := h.u.sublist (List.drop_sublist _ _)
  rw [hd, List.pairwise_cons] at hp
  have hno : (L.drop (i + 1)).reverse.any (sameV v.m) = false := by
    cases ha : (L.drop (i + 1)).reverse.any (sameV v.m) with
    | false => rfl
    | true =>
      obtain ⟨x, hx, hs⟩ := List.any_eq_true.1 ha
      have hs := of_decide_eq_true hs
      exact absurd ⟨hs.1.symm, hs.2.1.symm, hs.2.2.symm⟩ (hp.1 x (List.mem_reverse.1 hx))
  have ht := h.v v (List.mem_of_getElem? hv)
  unfold tkE tkL
  rw [ht]
  show (if (L.drop (i + 1)).reverse.any (sameV v.m) = true then 7 else 0) = 0 ∧ (if (L.drop (i + 1)).reverse.any (sameV v.m) = true then (L.drop (i + 1)).reverse else (L.drop (i + 1)).reverse ++ [⟨v.m, v.b⟩]) = _
  rw [hno, hd, List.reverse_cons]
  exact ⟨rfl, rfl⟩
theorem tk_kept {X : List UInt8} : (tkE ks V slot L X = 0 ∧ ∃ m, tkL ks V slot L X = L ++ [⟨m, X⟩]) ∨ (tkL ks V slot L X = L) := by
  unfold tkE tkL
  cases tlC ks V slot X with
  | error e => exact .inr rfl
  | ok m =>
    show ((if L.any (sameV m) = true then 7 else 0) = 0 ∧ ∃ m', (if L.any (sameV m) = true then L else L ++ [⟨m, X⟩]) = L ++ [⟨m', X⟩]) ∨ (if L.any (sameV m) = true then L else L ++ [⟨m, X⟩]) = L
    cases L.any (sameV m) with
    | true => exact .inr rfl
    | false => exact .inl ⟨rfl, m, rfl⟩
end Go.Proofs.YtmjpkdehkdpdpaaDoor
