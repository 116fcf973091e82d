/- Cp: layer 17, pure: what votes prove. No project text. -/
import Derived.Test.YtddeeigdcolegaaDoorZ1
import Derived.Test.YtddeeigdcolegaaDoorW3
namespace Go.Proofs.YtddeeigdcolegaaDoor
open Go.RowKit Go.V
/-- a view's number and its members -/
structure Vc where
  n : Int
  m : Nat
/-- what is asked: kind, view, regency, slot, digest -/
structure Qc where
  k : Int
  v : Int
  r : Int
  s : Int
  h : List UInt8
def opOf (ks : List (List UInt8)) (V : Vc) (X : List UInt8) : Except Nat Mg := match opR ks X with
  | .ok m => if hasB V.m m.f = true then .ok m else .error 6
  | .error e => .error e
/-- whose vote a part is, if it counts -/
def cntC (ks : List (List UInt8)) (V : Vc) (q : Qc) (X : List UInt8) : Option Nat := match opOf ks V X with
  | .ok m => if m.v = V.n ∧ m.k = q.k ∧ m.v = q.v ∧ m.r = q.r ∧ m.s = q.s ∧ m.h = q.h then some m.f.toNat else none
  | .error _ => none
def isC (ks : List (List UInt8)) (V : Vc) (q : Qc) (i : Nat) (X : List UInt8) : Bool := decide (cntC ks V q X = some i)
def whoC (ks : List (List UInt8)) (V : Vc) (q : Qc) (P : List (List UInt8)) : List Nat := (List.range 16).filter (fun i => P.any (isC ks V q i))
def pickC (ks : List (List UInt8)) (V : Vc) (q : Qc) (P : List (List UInt8)) : List (List UInt8) := (List.range 16).filterMap (fun i => P.find? (isC ks V q i))
def enC (ks : List (List UInt8)) (V : Vc) (q : Qc) (P : List (List UInt8)) : Bool := decide (quoN V.n V.m ≤ (whoC ks V q P).length)
def okC (V : Vc) (P : List (List UInt8)) : Bool := rgt V.n V.m && decide (P.length ≤ 16)
def wriC (ks : List (List UInt8)) (V : Vc) (r s : Int) (h : List UInt8) (P : List (List UInt8)) : Int := if okC V P = true ∧ enC ks V ⟨2, V.n, r, s, h⟩ P = true then 0 else 12
/-- the least regency of those that are asked -/
def leaC (ks : List (List UInt8)) (V : Vc) (s : Int) (h : List UInt8) (P : List (List UInt8)) : Option Nat := (List.range 41).find? (fun r => enC ks V ⟨3, V.n, (r : Int), s, h⟩ P)
def decC (ks : List (List UInt8)) (V : Vc) (s : Int) (h : List UInt8) (P : List (List UInt8)) : Int × Int := if okC V P = true then (match leaC ks V s h P with | some r => ((r : Int), 0) | none => (0, 12)) else (0, 12)
/-! what follows -/
theorem cnt_mem {ks : List (List UInt8)} {V : Vc} {q : Qc} {X : List UInt8} {i : Nat} (h : cntC ks V q X = some i) : i < 16 ∧ mbit V.m i = true := by
  unfold cntC at h
  split at h
  · rename_i m hm
    split at h
    · injection h with h
      unfold opOf at hm
      split at hm
      · split at hm
        · rename_i m' _ hb
          injection hm with hm
          subst hm
          unfold hasB at hb
          rw [Bool.and_eq_true, decide_eq_true_eq] at hb
          rw [← h]
          exact ⟨by omega, hb.2⟩
        · cases hm
      · cases hm
    · cases h
  · cases h
theorem who_mem {ks : List (List UInt8)} {V : Vc} {q : Qc} {P : List (List UInt8)} {i : Nat} : i ∈ whoC ks V q P ↔ i < 16 ∧ ∃ X ∈ P, cntC ks V q X = some i := by
  unfold whoC
  rw [List.mem_filter, List.mem_range, List.any_eq_true]
  constructor
  · rintro ⟨h1, X, hX, h2⟩
    exact ⟨h1, X, hX, of_decide_eq_true h2⟩
  · rintro ⟨h1, X, hX, h2⟩
    exact ⟨h1, X, hX, decide_eq_true h2⟩
theorem who_nodup (ks : List (List UInt8)) (V : Vc) (q : Qc) (P : List (List UInt8)) : (whoC ks V q P).Nodup := List.nodup_range.sublist List.filter_sublist
theorem who_len (ks : List (List UInt8)) (V : Vc) (q : Qc) (P : List (List UInt8)) : (whoC ks V q P).length ≤ 16 := by
  have := (List.filter_sublist (p := fun i => P.any (isC ks V q i)) (l := List.range 16)).length_le
  rw [List.length_range] at this
  exact this
theorem fil_le {p p' : Nat → Bool} (h : ∀ i, p i = true → p' i = true) : ∀ (l : List Nat), (l.filter p).length ≤ (l.filter p').length
  | [] => Nat.le_refl _
  | i :: l => by
    have ih := fil_le h l
    rw [List.filter_cons, List.filter_cons]
    split
    · rename_i hp
      rw [if_pos (h i hp), List.length_cons, List.length_cons]
      omega
    · split
      · rw [List.length_cons]; omega
      · exact ih
/-- more parts: no fewer members -/
theorem who_le {ks : List (List UInt8)} {V : Vc} {q : Qc} {P P' : List (List UInt8)} (h : ∀ X ∈ P, X ∈ P') : (whoC ks V q P).length ≤ (whoC ks V q P').length := by
  refine fil_le (fun i hi => ?_) _
  rw [List.any_eq_true] at hi ⊢
  obtain ⟨X, hX, h2⟩ := hi
  exact ⟨X, h X hX, h2⟩
theorem en_mono {ks : List (List UInt8)} {V : Vc} {q : Qc} {P P' : List (List UInt8)} (h : ∀ X ∈ P, X ∈ P') (he : enC ks V q P = true) : enC ks V q P' = true := by
  unfold enC at he ⊢
  rw [decide_eq_true_eq] at he ⊢
  exact Nat.le_trans he (who_le h)
theorem pick_sub {ks : List (List UInt8)} {V : Vc} {q : Qc} {P : List (List UInt8)} : ∀ X ∈ pickC ks V q P, X ∈ P := by
  intro X hX
  unfold pickC at hX
  rw [List.mem_filterMap] at hX
  obtain ⟨i, _, h⟩ := hX
  exact List.mem_of_find?_eq_some h
theorem pick_len (ks : List (List UInt8)) (V : Vc) (q : Qc) (P : List (List UInt8)) : (pickC ks V q P).length ≤ 16 := by
  have := List.length_filterMap_le (fun i => P.find? (isC ks V q i)) (List.range 16)
  rw [List.length_range] at this
  exact this
/-- those that are picked are voted by as many -/
theorem pick_who {ks : List (List UInt8)} {V : Vc} {q : Qc} {P : List (List UInt8)} : (whoC ks V q P).length ≤ (whoC ks V q (pickC ks V q P)).length := by
  refine fil_le (fun i hi => ?_) _
  rw [List.any_eq_true] at hi ⊢
  obtain ⟨X, hX, h2⟩ := hi
  have h1 := (cnt_mem (of_decide_eq_true h2)).1
  have hf : (P.find? (isC ks V q i)).isSome = true := by
    rw [List.find?_isSome]
    exact ⟨X, hX, h2⟩
  obtain ⟨Y, hY⟩ := Option.isSome_iff_exists.1 hf
  refine ⟨Y, ?_, List.find?_some hY⟩
  unfold pickC
  rw [List.mem_filterMap]
  exact ⟨i, List.mem_range.2 h1, hY⟩
theorem pick_en {ks : List (List UInt8)} {V : Vc} {q : Qc} {P : List (List UInt8)} (he : enC ks V q P = true) : enC ks V q (pickC ks V q P) = true := by
  unfold enC at he ⊢
  rw [decide_eq_true_eq] at he ⊢
  exact Nat.le_trans he pick_who
theorem fil_share {pa pb pm : Nat → Bool} (ha : ∀ i, pa i = true → pm i = true) (hb : ∀ i, pb i = true → pm i = true) : ∀ (l : List Nat), (l.filter pa).length + (l.filter pb).length ≤ (l.filter (fun i => pa i && pb i)).length + (l.filter pm).length
  | [] => Nat.le_refl _
  | i :: l => by
    have ih := fil_share ha hb l
    have h1 := ha i
    have h2 := hb i
    simp only [List.filter_cons]
    cases hpa : pa i <;> cases hpb : pb i <;> cases hpm : pm i <;> simp_all <;> omega
/-- those that vote for both -/
def bothC (A B : List Nat) : List Nat := A.filter (fun i => B.contains i)
theorem who_share {ks : List (List UInt8)} {V : Vc} {q q' : Qc} {P P' : List (List UInt8)} (hr : rgt V.n V.m = true) (h : enC ks V q P = true) (h' : enC ks V q' P' = true) : fltN V.n V.m < (bothC (whoC ks V q P) (whoC ks V q' P')).length := by
  have hs := fil_share (pa := fun i => P.any (isC ks V q i)) (pb := fun i => P'.any (isC ks V q' i)) (pm := mbit V.m)
    (fun i hi => by rw [List.any_eq_true] at hi; obtain ⟨X, _, h2⟩ := hi; exact (cnt_mem (of_decide_eq_true h2)).2)
    (fun i hi => by rw [List.any_eq_true] at hi; obtain ⟨X, _, h2⟩ := hi; exact (cnt_mem (of_decide_eq_true h2)).2) (List.range 16)
  have hm : ((List.range 16).filter (mbit V.m)).length = szM V.m := rfl
  have he : bothC (whoC ks V q P) (whoC ks V q' P') = (List.range 16).filter (fun i => P.any (isC ks V q i) && P'.any (isC ks V q' i)) := by
    unfold bothC
    have e1 : whoC ks V q P = (List.range 16).filter (fun i => P.any (isC ks V q i)) := rfl
    rw [e1, List.filter_filter]
    apply List.filter_congr
    intro i hi
    rw [Bool.and_comm]
    congr 1
    rw [Bool.eq_iff_iff, List.contains_iff_mem]
    have e2 : whoC ks V q' P' = (List.range 16).filter (fun i => P'.any (isC ks V q' i)) := rfl
    rw [e2, List.mem_filter]
    exact ⟨fun h => h.2, fun h => ⟨hi, h⟩⟩
  unfold enC at h h'
  rw [decide_eq_true_eq] at h h'
  have e1 : (whoC ks V q P).length = ((List.range 16).filter (fun i => P.any (isC ks V q i))).length := rfl
  have e2 : (whoC ks V q' P').length = ((List.range 16).filter (fun i => P'.any (isC ks V q' i))).length := rfl
  have hq : quoN V.n V.m = (szM V.m + fltN V.n V.m) / 2 + 1 := by unfold quoN; rw [if_pos hr]
  rw [he]
  omega
/-! the regency that is told -/
theorem lea_some {ks : List (List UInt8)} {V : Vc} {s : Int} {h : List UInt8} {P : List (List UInt8)} {r : Nat} (hl : leaC ks V s h P = some r) : r ≤ 40 ∧ enC ks V ⟨3, V.n, (r : Int), s, h⟩ P = true ∧ ∀ n, n < r → enC ks V ⟨3, V.n, (n : Int), s, h⟩ P = false := by
  unfold leaC at hl
  rw [List.find?_range_eq_some] at hl
  obtain ⟨h1, h2, h3⟩ := hl
  exact ⟨by have := List.mem_range.1 h2; omega, h1, fun n hn => by have := h3 n hn; simpa using this⟩
theorem lea_of {ks : List (List UInt8)} {V : Vc} {s : Int} {h : List UInt8} {P : List (List UInt8)} {r : Nat} (h40 : r ≤ 40) (he : enC ks V ⟨3, V.n, (r : Int), s, h⟩ P = true) (hn : ∀ n, n < r → enC ks V ⟨3, V.n, (n : Int), s, h⟩ P = false) : leaC ks V s h P = some r := by
  unfold leaC
  rw [List.find?_range_eq_some]
  exact ⟨he, List.mem_range.2 (by omega), fun n hn' => by rw [hn n hn']; rfl⟩
/-- with just those that are picked it is told again -/
theorem lea_pick {ks : List (List UInt8)} {V : Vc} {s : Int} {h : List UInt8} {P : List (List UInt8)} {r : Nat} (hl : leaC ks V s h P = some r) : leaC ks V s h (pickC ks V ⟨3, V.n, (r : Int), s, h⟩ P) = some r := by
  obtain ⟨h1, h2, h3⟩ := lea_some hl
  refine lea_of h1 (pick_en h2) (fun n hn => ?_)
  cases he : enC ks V ⟨3, V.n, (n : Int), s, h⟩ (pickC ks V ⟨3, V.n, (r : Int), s, h⟩ P) with
  | false => rfl
  | true =>
    have := en_mono (P' := P) pick_sub he
    rw [h3 n hn] at this
    cases this
end Go.Proofs.YtddeeigdcolegaaDoor
