/- DU: layer 10: no two files of one name. -/
import Derived.Test.YtjaiffefgjopmaaDQ
namespace Go.V
open Go.RowKit
def uq (l : List Fl) : Prop := (l.map Fl.n).Nodup
theorem wi_perm (n : ByteArray) (b : List UInt8) : ∀ (l : List Fl) (st : List Fl × Bool),
    (st.2 = true → (l.foldl (wiS n b) st).2 = true ∧ (l.foldl (wiS n b) st).1.Perm (st.1 ++ woF l n)) ∧
    (st.2 = false → ((l.foldl (wiS n b) st).2 = false ∧ (l.foldl (wiS n b) st).1.Perm (st.1 ++ woF l n)) ∨ ((l.foldl (wiS n b) st).2 = true ∧ (l.foldl (wiS n b) st).1.Perm (⟨n, b⟩ :: (st.1 ++ woF l n))))
  | [], st => by
    have e : woF [] n = [] := rfl
    rw [e, List.append_nil]
    exact ⟨fun h => ⟨h, List.Perm.refl _⟩, fun h => .inl ⟨h, List.Perm.refl _⟩⟩
  | f :: l, st => by
    rw [List.foldl_cons]
    have ih := wi_perm n b l (wiS n b st f)
    rw [wo_cons]
    obtain ⟨x, q⟩ := st
    unfold wiS at ih ⊢
    by_cases hf : f.n = n
    · rw [if_pos hf] at ih ⊢
      rw [if_pos hf]
      exact ih
    · rw [if_neg hf] at ih ⊢
      rw [if_neg hf]
      by_cases hg : q = false ∧ gtS f.n n = true
      · dsimp only at ih ⊢
        rw [if_pos hg] at ih ⊢
        have h1 := ih.1 rfl
        refine ⟨fun h => (by rw [hg.1] at h; cases h), fun _ => .inr ⟨h1.1, h1.2.trans ?_⟩⟩
        dsimp only
        rw [List.append_assoc]
        have e : [(⟨n, b⟩ : Fl), f] ++ woF l n = ⟨n, b⟩ :: (f :: woF l n) := rfl
        rw [e]
        exact List.perm_middle
      · dsimp only at ih ⊢
        rw [if_neg hg] at ih ⊢
        dsimp only at ih ⊢
        have e : x ++ [f] ++ woF l n = x ++ f :: woF l n := by simp
        rw [e] at ih
        exact ih
theorem with_perm (l : List Fl) (n : ByteArray) (b : List UInt8) : (withF l n b).Perm (⟨n, b⟩ :: woF l n) := by
  have h := (wi_perm n b l ([], false)).2 rfl
  unfold withF wiF
  rcases h with ⟨h1, h2⟩ | ⟨h1, h2⟩
  · rw [if_neg (by rw [h1]; simp)]
    exact (h2.append_right _).trans (by simp)
  · rw [if_pos h1]
    exact h2
theorem uq_wo {l : List Fl} (h : uq l) (n : ByteArray) : uq (woF l n) := List.Nodup.sublist (List.Sublist.map _ (List.filter_sublist)) h
theorem uq_with {l : List Fl} (h : uq l) (n : ByteArray) (b : List UInt8) : uq (withF l n b) := by
  unfold uq
  have hp := (with_perm l n b).map Fl.n
  rw [hp.nodup_iff, List.map_cons, List.nodup_cons]
  refine ⟨?_, uq_wo h n⟩
  intro hm
  obtain ⟨f, hf, he⟩ := List.mem_map.1 hm
  unfold woF at hf
  have := (List.mem_filter.1 hf).2
  simp at this
  exact this he
theorem uq_done {l : List Fl} (h : uq l) (a : Ac) : uq (doneF l a) := by
  unfold doneF
  split
  · exact uq_with h _ _
  · split
    · exact uq_with h _ _
    · split
      · split
        · exact uq_with (uq_wo h _) _ _
        · exact h
      · split
        · exact uq_wo h _
        · exact h
theorem uq_now : ∀ (p : List Ac) {l : List Fl}, uq l → uq (nowL l p)
  | [], _, h => h
  | a :: p, _, h => uq_now p (uq_done h a)
theorem uq_cr (keep : Nat) (torn cut : Int) : ∀ (p : List Ac) (i : Nat) {l : List Fl}, uq l → uq (crF keep torn cut i l p)
  | [], _, _, h => h
  | a :: p, i, l, h => by
    rw [crF]
    refine uq_cr keep torn cut p (i + 1) ?_
    unfold crS
    split
    · exact uq_done h _
    · split
      · exact uq_done h _
      · exact h
theorem push_uq (d : Dk) (a : Ac) (h : uq d.syn) : uq (pushF d a).1.syn := by
  unfold pushF
  split <;> exact h
theorem do_uq (d : Dk) (a : Ac) (h : uq d.syn) : uq (doF d a).1.syn := by
  unfold doF
  split
  · split
    · exact uq_now _ h
    · exact h
  split
  · exact uq_cr _ _ _ _ _ h
  split
  · exact h
  split
  · split <;> exact h
  split
  · exact h
  split
  · exact h
  split
  · unfold sizeR
    split
    · exact h
    · exact push_uq d a h
  · unfold findR
    split
    · exact h
    · exact push_uq d a h
/-- each file is found by its name -/
theorem uq_find : ∀ {l : List Fl}, uq l → ∀ (i : Nat) (f : Fl), l[i]? = some f → findF l f.n = some f.b
  | [], _, _, _, h => by simp at h
  | g :: l, hu, 0, f, h => by
    simp at h
    subst h
    rw [findF, if_pos rfl]
  | g :: l, hu, i + 1, f, h => by
    have h' : l[i]? = some f := by simpa using h
    unfold uq at hu
    rw [List.map_cons, List.nodup_cons] at hu
    have hne : g.n ≠ f.n := fun e => hu.1 (by rw [e]; exact List.mem_map.2 ⟨f, List.mem_of_getElem? h', rfl⟩)
    rw [findF, if_neg hne]
    exact uq_find hu.2 i f h'
end Go.V
