/- DO: layer 10: files stand in the order of their names. No project text. -/
import Derived.Test.YtijhicfegbaadaaDoorDU
import Derived.Sort.OwnSorted
import Derived.Sort.KeysCollected
namespace Go.V
open Go.RowKit
def nmL (f : Fl) : List UInt8 := f.n.data.toList
theorem nmL_inj {s t : ByteArray} (h : s.data.toList = t.data.toList) : s = t := by
  have : s.data = t.data := Array.toList_inj.1 h
  cases s; cases t; cases this; rfl
def srt (l : List Fl) : Prop := l.Pairwise fun f g => nmL f < nmL g
theorem bl_eq : ∀ (x y : List UInt8), Op.bytesLess x y = decide (x < y)
  | [], [] => by simp [Op.bytesLess]
  | _ :: _, [] => by simp [Op.bytesLess]
  | [], _ :: _ => by simp [Op.bytesLess]
  | a :: x, b :: y => by
    rw [Op.bytesLess, bl_eq x y]
    by_cases h : a < b
    · simp [List.cons_lt_cons_iff, h]
    · by_cases h2 : a = b
      · subst h2; simp
      · simp [List.cons_lt_cons_iff, h, h2]
theorem lt_of_nle {x y : List UInt8} (h1 : ¬ x < y) (h2 : x ≠ y) : y < x := by
  rcases List.le_total x y with h | h
  · exact absurd (List.le_antisymm h (List.not_lt.1 h1)) h2
  · rcases Classical.em (y < x) with h3 | h3
    · exact h3
    · exact absurd (List.le_antisymm (List.not_lt.1 h3) h) h2
theorem gtS_iff (a b : ByteArray) : gtS a b = true ↔ b.data.toList < a.data.toList := by
  unfold gtS
  rw [bl_eq, Lib.toList_data, Lib.toList_data]
  simp only [Bool.not_eq_true', Bool.or_eq_false_iff, decide_eq_false_iff_not, beq_eq_false_iff_ne]
  constructor
  · rintro ⟨h1, h2⟩
    exact lt_of_nle h1 h2
  · intro h
    exact ⟨fun h1 => List.lt_irrefl _ (List.lt_trans h h1), fun h1 => by rw [h1] at h; exact List.lt_irrefl _ h⟩
def insF (n : ByteArray) (b : List UInt8) : List Fl → List Fl
  | [] => [⟨n, b⟩]
  | f :: r => if f.n = n then insF n b r else if gtS f.n n = true then ⟨n, b⟩ :: f :: woF r n else f :: insF n b r
theorem wi_put (n : ByteArray) (b : List UInt8) : ∀ (l out : List Fl), l.foldl (wiS n b) (out, true) = (out ++ woF l n, true)
  | [], out => by simp [woF]
  | f :: l, out => by
    rw [List.foldl_cons, wo_cons]
    by_cases h : f.n = n
    · rw [show wiS n b (out, true) f = (out, true) from by unfold wiS; rw [if_pos h], if_pos h]
      exact wi_put n b l out
    · rw [show wiS n b (out, true) f = (out ++ [f], true) from by unfold wiS; rw [if_neg h, if_neg (by simp)], if_neg h, wi_put n b l (out ++ [f])]
      simp
theorem fold_ins (n : ByteArray) (b : List UInt8) : ∀ (l out : List Fl), (if (l.foldl (wiS n b) (out, false)).2 then (l.foldl (wiS n b) (out, false)).1 else (l.foldl (wiS n b) (out, false)).1 ++ [⟨n, b⟩]) = out ++ insF n b l
  | [], out => by simp [insF]
  | f :: l, out => by
    rw [List.foldl_cons, insF]
    by_cases h : f.n = n
    · rw [show wiS n b (out, false) f = (out, false) from by unfold wiS; rw [if_pos h], if_pos h]
      exact fold_ins n b l out
    · rw [if_neg h]
      by_cases h2 : gtS f.n n = true
      · rw [show wiS n b (out, false) f = (out ++ [⟨n, b⟩, f], true) from by unfold wiS; rw [if_neg h, if_pos ⟨rfl, h2⟩], if_pos h2, wi_put]
        simp
      · rw [show wiS n b (out, false) f = (out ++ [f], false) from by unfold wiS; rw [if_neg h, if_neg (fun hh => h2 hh.2)], if_neg h2, fold_ins n b l (out ++ [f])]
        simp
theorem with_ins (l : List Fl) (n : ByteArray) (b : List UInt8) : withF l n b = insF n b l := by
  unfold withF wiF
  rw [fold_ins, List.nil_append]
theorem mem_ins {n : ByteArray} {b : List UInt8} {x : Fl} : ∀ {l : List Fl}, x ∈ insF n b l → x = ⟨n, b⟩ ∨ x ∈ l
  | [], h => by simp [insF] at h; exact .inl h
  | f :: l, h => by
    unfold insF at h
    split at h
    · exact (mem_ins h).imp id (fun h => by simp [h])
    · split at h
      · rcases List.mem_cons.1 h with h | h
        · exact .inl h
        · rcases List.mem_cons.1 h with h | h
          · exact .inr (by simp [h])
          · exact .inr (by have := (List.mem_filter.1 h).1; simp [this])
      · rcases List.mem_cons.1 h with h | h
        · exact .inr (by simp [h])
        · exact (mem_ins h).imp id (fun h => by simp [h])
theorem srt_wo {l : List Fl} (h : srt l) (n : ByteArray) : srt (woF l n) := List.Pairwise.sublist List.filter_sublist h
theorem srt_ins {n : ByteArray} {b : List UInt8} : ∀ {l : List Fl}, srt l → srt (insF n b l)
  | [], _ => by simp [insF, srt]
  | f :: l, h => by
    obtain ⟨h1, h2⟩ := List.pairwise_cons.1 h
    unfold insF
    split
    · exact srt_ins h2
    · rename_i hn
      split
      · rename_i hg
        have hg := (gtS_iff _ _).1 hg
        have hw : ∀ x ∈ woF l n, nmL f < nmL x := fun x hx => h1 x (List.mem_filter.1 hx).1
        refine List.pairwise_cons.2 ⟨fun x hx => ?_, List.pairwise_cons.2 ⟨hw, srt_wo h2 n⟩⟩
        rcases List.mem_cons.1 hx with rfl | hx
        · exact hg
        · exact List.lt_trans (l₂ := nmL f) hg (hw x hx)
      · rename_i hg
        have hlt : nmL f < n.data.toList := by
          refine lt_of_nle (fun h => hg ((gtS_iff _ _).2 h)) (fun e => hn (nmL_inj e.symm))
        refine List.pairwise_cons.2 ⟨fun x hx => ?_, srt_ins h2⟩
        rcases mem_ins hx with rfl | hx
        · exact hlt
        · exact h1 x hx
theorem srt_with {l : List Fl} (h : srt l) (n : ByteArray) (b : List UInt8) : srt (withF l n b) := by rw [with_ins]; exact srt_ins h
theorem srt_done {l : List Fl} (h : srt l) (a : Ac) : srt (doneF l a) := by
  unfold doneF
  split
  · exact srt_with h _ _
  · split
    · exact srt_with h _ _
    · split
      · split
        · exact srt_with (srt_wo h _) _ _
        · exact h
      · split
        · exact srt_wo h _
        · exact h
theorem srt_now : ∀ (p : List Ac) {l : List Fl}, srt l → srt (nowL l p)
  | [], _, h => h
  | a :: p, _, h => srt_now p (srt_done h a)
theorem srt_cr (keep : Nat) (torn cut : Int) : ∀ (p : List Ac) (i : Nat) {l : List Fl}, srt l → srt (crF keep torn cut i l p)
  | [], _, _, h => h
  | a :: p, i, l, h => by
    rw [crF]
    refine srt_cr keep torn cut p (i + 1) ?_
    unfold crS
    split
    · exact srt_done h _
    · split
      · exact srt_done h _
      · exact h
theorem push_srt (d : Dk) (a : Ac) (h : srt d.syn) : srt (pushF d a).1.syn := by
  unfold pushF
  split <;> exact h
theorem do_srt (d : Dk) (a : Ac) (h : srt d.syn) : srt (doF d a).1.syn := by
  unfold doF
  split
  · split
    · exact srt_now _ h
    · exact h
  split
  · exact srt_cr _ _ _ _ _ h
  split
  · exact h
  split
  · split <;> exact h
  split
  · exact h
  split
  · exact h
  split
  · unfold sizeR
    split
    · exact h
    · exact push_srt d a h
  · unfold findR
    split
    · exact h
    · exact push_srt d a h
theorem srt_uq {l : List Fl} (h : srt l) : uq l := by
  unfold uq
  rw [List.Nodup, List.pairwise_map]
  exact h.imp (fun {f g} hlt e => by unfold nmL at hlt; rw [e] at hlt; exact List.lt_irrefl _ hlt)
/-- the names of files that stand in order, sorted however they come -/
theorem srt_names {l : List Fl} (h : srt l) {ss : List (List UInt8)} (hp : ss.Perm (l.map nmL)) : (ss.mergeSort fun x y => decide (x ≤ y)) = l.map nmL := by
  have h1 := mergeSort_of_perm hp
  show ss.mergeSort leB = _
  rw [h1]
  refine List.mergeSort_of_pairwise ?_
  rw [List.pairwise_map]
  exact h.imp (fun {f g} hlt => decide_eq_true (List.le_of_lt hlt))
end Go.V
