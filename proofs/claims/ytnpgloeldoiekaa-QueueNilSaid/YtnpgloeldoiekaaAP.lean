/- AP: layer 15, pure: the replies of a batch are those of its requests that were done, in order, each its client's last one till the next. No project text. -/
import Derived.Test.YtnpgloeldoiekaaA0
namespace Go.Proofs.Ytnpgloeldoiekaa
open Go.RowKit Go.V
def kR (r : Rp) : Int × Int := (r.c, r.s)
def kQ (q : Rq) : Int × Int := (q.c, q.s)
def setAll (a : List Rp) (o : List Rp) : List Rp := o.foldl (fun a r => a.set r.c.toNat r) a
theorem len_setAll : ∀ (o a : List Rp), (setAll a o).length = a.length
  | [], _ => rfl
  | r :: o, a => by
    show (setAll (a.set r.c.toNat r) o).length = _
    rw [len_setAll o, List.length_set]
/-- what a batch tells, from within -/
structure OutR (v : Vw) (t : Int) (d : Bt) (l : List Rq) (o : List Rp) : Prop where
  ho : (batW v t d l).o = d.o ++ o
  ha : (batW v t d l).a = setAll d.a o
  sub : (o.map kR).Sublist (l.map kQ)
  k : ∀ r ∈ o, r.k = t ∧ 0 ≤ r.c ∧ r.c ≤ 5 ∧ lastS d.a r.c < r.s
theorem out_all (v : Vw) (t : Int) : ∀ (l : List Rq) (d : Bt), d.a.length = 6 → ∃ o, OutR v t d l o
  | [], d, _ => ⟨[], by show d.o = _; simp, rfl, List.Sublist.refl _, fun r hr => by simp at hr⟩
  | q :: l, d, hd => by
    obtain ⟨o, ho⟩ := out_all v t l (stepW v t d q) ((step_len v t d q).trans hd)
    have hmono := fun x (hx : 0 ≤ x) => step_last v t d q hd x hx
    by_cases hq : dueR d.a q = true
    · have e : stepW v t d q = ⟨(opW v d.x d.c q).1, d.a.set q.c.toNat (repW v t d q), (opW v d.x d.c q).2.1, d.o ++ [repW v t d q]⟩ := by unfold stepW; rw [if_pos hq]
      obtain ⟨h0, h5, hs⟩ := due_rgt hq
      refine ⟨repW v t d q :: o, ?_, ?_, ?_, ?_⟩
      · show (batW v t (stepW v t d q) l).o = _
        rw [ho.ho, e]
        simp
      · show (batW v t (stepW v t d q) l).a = _
        rw [ho.ha, e]
        rfl
      · show (kQ q :: o.map kR).Sublist (kQ q :: l.map kQ)
        exact List.Sublist.cons_cons _ ho.sub
      · intro r hr
        rcases List.mem_cons.1 hr with rfl | hr
        · exact ⟨rfl, h0, h5, hs⟩
        · obtain ⟨k1, k2, k3, k4⟩ := ho.k r hr
          exact ⟨k1, k2, k3, Int.lt_of_le_of_lt (hmono r.c k2) k4⟩
    · have e : stepW v t d q = d := by unfold stepW; rw [if_neg hq]
      rw [e] at ho
      refine ⟨o, ?_, ?_, ?_, ?_⟩
      · show (batW v t (stepW v t d q) l).o = _; rw [e]; exact ho.ho
      · show (batW v t (stepW v t d q) l).a = _; rw [e]; exact ho.ha
      · exact List.Sublist.cons _ ho.sub
      · exact ho.k
theorem setAll_other : ∀ (o a : List Rp) (c : Nat), (∀ r ∈ o, r.c.toNat ≠ c) → (setAll a o)[c]? = a[c]?
  | [], _, _, _ => rfl
  | r :: o, a, c, h => by
    show (setAll (a.set r.c.toNat r) o)[c]? = _
    rw [setAll_other o _ c (fun q hq => h q (by simp [hq])), List.getElem?_set_ne (h r (by simp))]
theorem setAll_last (p q : List Rp) (a : List Rp) (r : Rp) (hr : r.c.toNat < a.length) (hq : ∀ s ∈ q, s.c.toNat ≠ r.c.toNat) : (setAll a (p ++ r :: q))[r.c.toNat]? = some r := by
  have e : setAll a (p ++ r :: q) = setAll ((setAll a p).set r.c.toNat r) q := by unfold setAll; rw [List.foldl_append]; rfl
  rw [e, setAll_other q _ _ hq, List.getElem?_set_self (by rw [len_setAll]; exact hr)]
/-- what a batch tells -/
structure Out (E : We) (l : List Rq) : Prop where
  sub : ((doW E l).2.map kR).Sublist (l.map kQ)
  k : ∀ r ∈ (doW E l).2, r.k = E.s + 1 ∧ 0 ≤ r.c ∧ r.c ≤ 5 ∧ lastS E.a r.c < r.s
  last : ∀ p r q, (doW E l).2 = p ++ r :: q → (∀ s ∈ q, s.c ≠ r.c) → (doW E l).1.a[r.c.toNat]? = some r
theorem do_out (E : We) (l : List Rq) (h : E.a.length = 6) : Out E l := by
  obtain ⟨o, ho⟩ := out_all E.v (E.s + 1) l (begW E) h
  have e : (doW E l).2 = o := by show (batW E.v (E.s + 1) (begW E) l).o = o; rw [ho.ho]; rfl
  have ea : (doW E l).1.a = setAll E.a o := ho.ha
  refine ⟨by rw [e]; exact ho.sub, by rw [e]; exact ho.k, ?_⟩
  intro p r q hp hq
  rw [e] at hp
  rw [ea, hp]
  have hk := fun s (hs : s ∈ o) => ho.k s hs
  rw [hp] at hk
  have hr := hk r (by simp)
  refine setAll_last p q E.a r (by omega) (fun s hs hc => hq s hs ?_)
  have := hk s (by simp [hs])
  omega
theorem out_len {E : We} {l : List Rq} (h : Out E l) : (doW E l).2.length ≤ l.length := by
  have := h.sub.length_le
  simpa using this
/-- a key that is looked for, one on -/
theorem sub_on {a b : Int × Int} {o l : List (Int × Int)} (h : (a :: o).Sublist (b :: l)) (hne : b ≠ a) : (a :: o).Sublist l := by
  cases h with
  | cons _ h => exact h
  | cons_cons _ h => exact absurd rfl hne
theorem sub_hit {a : Int × Int} {o l : List (Int × Int)} (h : (a :: o).Sublist (a :: l)) : o.Sublist l := List.cons_sublist_cons.1 h
end Go.Proofs.Ytnpgloeldoiekaa
