/- JP: layer 13, pure: what the laws want of the book's functions. -/
import Derived.Test.YtkoncjcnpconkaaJ5
namespace Go.V
open Go.RowKit
theorem accS_mem {s : Int} {o : Option Vt} {m x : Vt} (h : accS s o m = some x) : o = some x ∨ x = m := by
  unfold accS at h
  split at h
  · split at h
    · injection h with h; exact .inr h.symm
    · split at h
      · injection h with h; exact .inr h.symm
      · exact .inl h
  · exact .inl h
theorem accQ_mem {s : Int} : ∀ (l : List Vt) (o : Option Vt) {x : Vt}, l.foldl (accS s) o = some x → o = some x ∨ x ∈ l
  | [], o, x, h => .inl h
  | m :: l, o, x, h => by
    rcases accQ_mem l (accS s o m) h with h | h
    · rcases accS_mem h with h | h
      · exact .inl h
      · exact .inr (by rw [h]; simp)
    · exact .inr (List.mem_cons_of_mem _ h)
theorem accF_mem {l : List Vt} {x : Vt} (h : accF l = some x) : x ∈ l := by
  rcases accQ_mem l none h with h | h
  · cases h
  · exact h
theorem wroteF_mem {l : List Vt} {v r : Int} {x : Vt} (h : wroteF l v r = some x) : x ∈ l := List.mem_of_find?_eq_some h
theorem isW_out {s v r : Int} {m : Vt} (h : isW s v r m = true) : m.k = 2 ∧ m.s = s ∧ m.v = v ∧ m.r = r := by
  unfold isW at h
  simp only [Bool.and_eq_true, beq_iff_eq] at h
  exact ⟨h.1.1.1, h.1.1.2, h.1.2, h.2⟩
theorem isW_mk {s v r : Int} {m : Vt} (h1 : m.k = 2) (h2 : m.s = s) (h3 : m.v = v) (h4 : m.r = r) : isW s v r m = true := by
  unfold isW
  simp only [Bool.and_eq_true, beq_iff_eq]
  exact ⟨⟨⟨h1, h2⟩, h3⟩, h4⟩
theorem isW_no {s v r : Int} {m : Vt} (h : ¬ (m.k = 2 ∧ m.s = s ∧ m.v = v ∧ m.r = r)) : isW s v r m = false := by
  cases hc : isW s v r m with
  | false => rfl
  | true => exact absurd (isW_out hc) h
theorem wroteF_out {l : List Vt} {v r : Int} {m : Vt} (h : wroteF l v r = some m) : m.k = 2 ∧ m.s = slotF l ∧ m.v = v ∧ m.r = r := isW_out (List.find?_some h)
theorem accQ_out {s : Int} : ∀ (l : List Vt) (o : Option Vt) {x : Vt}, (∀ y, o = some y → y.k = 3 ∧ y.s = s) → l.foldl (accS s) o = some x → x.k = 3 ∧ x.s = s
  | [], o, x, ho, h => ho x h
  | m :: l, o, x, ho, h => by
    refine accQ_out l (accS s o m) (fun y hy => ?_) h
    by_cases hm : m.k = 3 ∧ m.s = s
    · rcases accS_mem hy with h | h
      · exact ho y h
      · rw [h]; exact hm
    · rw [show accS s o m = o from if_neg hm] at hy
      exact ho y hy
theorem accF_out {l : List Vt} {x : Vt} (h : accF l = some x) : x.k = 3 ∧ x.s = slotF l := accQ_out l none (fun y hy => by cases hy) h
theorem slotS_ge (n : Int) (m : Vt) : n ≤ slotS n m := by unfold slotS; split <;> omega
theorem slot_ge : ∀ (l : List Vt) (n : Int), n ≤ l.foldl slotS n ∧ ∀ m ∈ l, 1 < m.k → m.s ≤ l.foldl slotS n
  | [], n => ⟨Int.le_refl _, fun _ h => by cases h⟩
  | x :: l, n => by
    obtain ⟨h1, h2⟩ := slot_ge l (slotS n x)
    have h3 := slotS_ge n x
    refine ⟨Int.le_trans h3 h1, fun m hm hk => ?_⟩
    rcases List.mem_cons.1 hm with rfl | hm
    · refine Int.le_trans ?_ h1
      unfold slotS
      split <;> omega
    · exact h2 m hm hk
theorem slotF_nn (l : List Vt) : 0 ≤ slotF l := (slot_ge l 0).1
theorem slotF_ge {l : List Vt} {m : Vt} (h : m ∈ l) (hk : 1 < m.k) : m.s ≤ slotF l := (slot_ge l 0).2 m h hk
theorem slot_le : ∀ (l : List Vt) (n S : Int), n ≤ S → (∀ m ∈ l, 1 < m.k → m.s ≤ S) → l.foldl slotS n ≤ S
  | [], _, _, h, _ => h
  | x :: l, n, S, h, ha => by
    refine slot_le l (slotS n x) S ?_ (fun m hm => ha m (List.mem_cons_of_mem _ hm))
    unfold slotS
    split
    · next hx => exact ha x (by simp) hx.1
    · exact h
theorem slotF_le {l : List Vt} {S : Int} (h0 : 0 ≤ S) (h : ∀ m ∈ l, 1 < m.k → m.s ≤ S) : slotF l ≤ S := slot_le l 0 S h0 h
theorem slot_cases : ∀ (l : List Vt) (n : Int), l.foldl slotS n = n ∨ ∃ m ∈ l, 1 < m.k ∧ l.foldl slotS n = m.s
  | [], n => .inl rfl
  | x :: l, n => by
    rcases slot_cases l (slotS n x) with h | ⟨m, hm, h1, h2⟩
    · by_cases hx : 1 < x.k ∧ n < x.s
      · refine .inr ⟨x, by simp, hx.1, ?_⟩
        show l.foldl slotS (slotS n x) = x.s
        rw [h]; exact if_pos hx
      · refine .inl ?_
        show l.foldl slotS (slotS n x) = n
        rw [h]; exact if_neg hx
    · exact .inr ⟨m, List.mem_cons_of_mem _ hm, h1, h2⟩
theorem slotF_cases (l : List Vt) : slotF l = 0 ∨ ∃ m ∈ l, 1 < m.k ∧ slotF l = m.s := slot_cases l 0
theorem reg_cases : ∀ (l : List Vt) (p : Int × Int), l.foldl regS p = p ∨ ∃ m ∈ l, m.k = 1 ∧ l.foldl regS p = (m.v, m.r)
  | [], p => .inl rfl
  | x :: l, p => by
    rcases reg_cases l (regS p x) with h | ⟨m, hm, h1, h2⟩
    · by_cases hx : x.k = 1 ∧ (p.1 < x.v ∨ x.v = p.1 ∧ p.2 < x.r)
      · refine .inr ⟨x, by simp, hx.1, ?_⟩
        show l.foldl regS (regS p x) = _
        rw [h]; exact if_pos hx
      · refine .inl ?_
        show l.foldl regS (regS p x) = p
        rw [h]; exact if_neg hx
    · exact .inr ⟨m, List.mem_cons_of_mem _ hm, h1, h2⟩
theorem regF_cases (l : List Vt) : regF l = (-1, -1) ∨ ∃ m ∈ l, m.k = 1 ∧ regF l = (m.v, m.r) := reg_cases l (-1, -1)
theorem reg_skip : ∀ (l : List Vt) (p : Int × Int), (∀ m ∈ l, m.k ≠ 1) → l.foldl regS p = p
  | [], _, _ => rfl
  | x :: l, p, h => by
    show l.foldl regS (regS p x) = p
    rw [show regS p x = p from if_neg (fun e => h x (by simp) e.1)]
    exact reg_skip l p (fun m hm => h m (List.mem_cons_of_mem _ hm))
theorem acc_skip (s : Int) : ∀ (l : List Vt) (o : Option Vt), (∀ m ∈ l, m.k ≠ 3) → l.foldl (accS s) o = o
  | [], _, _ => rfl
  | x :: l, o, h => by
    show l.foldl (accS s) (accS s o x) = o
    rw [show accS s o x = o from if_neg (fun e => h x (by simp) e.1)]
    exact acc_skip s l o (fun m hm => h m (List.mem_cons_of_mem _ hm))
theorem accS_some {s : Int} {o : Option Vt} {m : Vt} (h : o.isSome = true ∨ m.k = 3 ∧ m.s = s) : (accS s o m).isSome = true := by
  unfold accS
  by_cases hm : m.k = 3 ∧ m.s = s
  · rw [if_pos hm]
    cases o with
    | none => rfl
    | some y => dsimp only; split <;> rfl
  · rw [if_neg hm]
    exact h.elim id (fun e => absurd e hm)
theorem acc_some (s : Int) : ∀ (l : List Vt) (o : Option Vt), (o.isSome = true ∨ ∃ m ∈ l, m.k = 3 ∧ m.s = s) → (l.foldl (accS s) o).isSome = true
  | [], o, h => by
    rcases h with h | ⟨m, hm, _⟩
    · exact h
    · cases hm
  | x :: l, o, h => by
    refine acc_some s l (accS s o x) ?_
    rcases h with h | ⟨m, hm, h3⟩
    · exact .inl (accS_some (.inl h))
    · rcases List.mem_cons.1 hm with rfl | hm
      · exact .inl (accS_some (.inr h3))
      · exact .inr ⟨m, hm, h3⟩
/-- votes that are formed as far as numbers go -/
structure Fine (m : Vt) : Prop where
  k : m.k = 1 ∨ m.k = 2 ∨ m.k = 3
  v : 0 ≤ m.v ∧ m.v ≤ 60
  r : 0 ≤ m.r ∧ m.r ≤ 40
  s : 0 ≤ m.s
theorem fine_of {m : Vt} (h : partsV m = true) : Fine m := by
  unfold partsV at h
  rw [decide_eq_true_iff] at h
  obtain ⟨h1, h2, h3, h4, _⟩ := h
  exact ⟨by omega, h2, h3, h4.1⟩
theorem mem_wrotesR {l : List Vt} {v n : Nat} {m : Vt} (h : m ∈ wrotesR l v n) : ∃ r, r < n ∧ wroteF l v r = some m := by
  unfold wrotesR at h
  obtain ⟨r, hr, hm⟩ := List.mem_flatMap.1 h
  exact ⟨r, List.mem_range.1 hr, by simpa using hm⟩
theorem mem_wrotesF {l : List Vt} {n : Nat} {m : Vt} (h : m ∈ wrotesF l n) : ∃ v r : Nat, v < n ∧ r < 41 ∧ wroteF l v r = some m := by
  unfold wrotesF at h
  obtain ⟨v, hv, hm⟩ := List.mem_flatMap.1 h
  obtain ⟨r, hr, h2⟩ := mem_wrotesR hm
  exact ⟨v, r, List.mem_range.1 hv, hr, h2⟩
theorem wrotesF_mem {l : List Vt} {v r n : Nat} {m : Vt} (hv : v < n) (hr : r < 41) (h : wroteF l v r = some m) : m ∈ wrotesF l n := by
  unfold wrotesF
  refine List.mem_flatMap.2 ⟨v, List.mem_range.2 hv, ?_⟩
  unfold wrotesR
  exact List.mem_flatMap.2 ⟨r, List.mem_range.2 hr, by simp [h]⟩
theorem find_wrotesR (l : List Vt) (v : Nat) (x y : Int) : ∀ n, (wrotesR l v n).find? (isW (slotF l) x y) = if x = (v : Int) ∧ 0 ≤ y ∧ y < (n : Int) then wroteF l x y else none
  | 0 => by
    rw [if_neg (by omega)]
    rfl
  | n + 1 => by
    rw [wrotesR_succ, List.find?_append, find_wrotesR l v x y n]
    by_cases h : x = (v : Int) ∧ 0 ≤ y ∧ y < (n : Int)
    · rw [if_pos h, if_pos (by omega)]
      have e : ((wroteF l v n).toList).find? (isW (slotF l) x y) = none := by
        cases hc : wroteF l v n with
        | none => rfl
        | some m =>
          have := wroteF_out hc
          simp only [Option.toList_some, List.find?_cons, List.find?_nil]
          rw [isW_no (by omega)]
      rw [e, Option.or_none]
    · rw [if_neg h, Option.none_or]
      by_cases h2 : x = (v : Int) ∧ y = (n : Int)
      · rw [if_pos (by omega)]
        obtain ⟨rfl, rfl⟩ := h2
        cases hc : wroteF l v n with
        | none => rfl
        | some m =>
          have := wroteF_out hc
          simp only [Option.toList_some, List.find?_cons, List.find?_nil]
          rw [isW_mk this.1 this.2.1 this.2.2.1 this.2.2.2]
      · rw [if_neg (by omega)]
        cases hc : wroteF l v n with
        | none => rfl
        | some m =>
          have := wroteF_out hc
          simp only [Option.toList_some, List.find?_cons, List.find?_nil]
          rw [isW_no (by omega)]
theorem find_wrotesF (l : List Vt) (x y : Int) : ∀ n : Nat, (wrotesF l n).find? (isW (slotF l) x y) = if (0 ≤ x ∧ x < (n : Int)) ∧ 0 ≤ y ∧ y < 41 then wroteF l x y else none
  | 0 => by
    rw [if_neg (by omega)]
    rfl
  | n + 1 => by
    rw [wrotesF_succ, List.find?_append, find_wrotesF l x y n, find_wrotesR]
    by_cases h : (0 ≤ x ∧ x < (n : Int)) ∧ 0 ≤ y ∧ y < 41
    · rw [if_pos h, if_neg (by omega : ¬ (x = (n : Int) ∧ 0 ≤ y ∧ y < ((41 : Nat) : Int))), Option.or_none, if_pos (by omega)]
    · rw [if_neg h, Option.none_or]
      by_cases h2 : x = (n : Int) ∧ 0 ≤ y ∧ y < ((41 : Nat) : Int)
      · rw [if_pos h2, if_pos (by omega)]
      · rw [if_neg h2, if_neg (by omega)]
theorem mem_preF {l : List Vt} {m : Vt} (h : m ∈ preF l) : 0 ≤ (regF l).1 ∧ m = regV (regF l).1 (regF l).2 := by
  unfold preF at h
  split at h
  · next h0 => exact ⟨h0, by simpa using h⟩
  · cases h
/-- what All tells, of votes that are fine -/
theorem mem_allF {l : List Vt} {m : Vt} (h : m ∈ allF l) : (0 ≤ (regF l).1 ∧ m = regV (regF l).1 (regF l).2) ∨ (m ∈ l ∧ 1 < m.k ∧ m.s = slotF l) := by
  rw [allF_pre, List.mem_append, List.mem_append] at h
  rcases h with (h | h) | h
  · exact .inl (mem_preF h)
  · obtain ⟨v, r, _, _, hw⟩ := mem_wrotesF h
    have := wroteF_out hw
    exact .inr ⟨wroteF_mem hw, by omega, this.2.1⟩
  · have ha : accF l = some m := by simpa using h
    have := accF_out ha
    exact .inr ⟨accF_mem ha, by omega, this.2⟩
theorem slot_allF_le (l : List Vt) (i : Nat) : slotF ((allF l).take i) ≤ slotF l := by
  refine slotF_le (slotF_nn l) (fun m hm hk => ?_)
  rcases mem_allF (List.mem_of_mem_take hm) with ⟨_, h⟩ | ⟨_, _, h⟩
  · rw [h] at hk; exact absurd hk (by show ¬ (1 : Int) < 1; omega)
  · omega
theorem slot_allF {l : List Vt} (hf : ∀ m ∈ l, Fine m) : slotF (allF l) = slotF l := by
  have hle := slot_allF_le l (allF l).length
  rw [List.take_length] at hle
  refine Int.le_antisymm hle ?_
  rcases slotF_cases l with h | ⟨m, hm, hk, hs⟩
  · rw [h]; exact slotF_nn _
  · have hfm := hf m hm
    have hx : ∃ x ∈ allF l, 1 < x.k ∧ x.s = slotF l := by
      rcases hfm.k with h1 | h2 | h3
      · omega
      · have hw : (wroteF l m.v m.r).isSome = true := by
          unfold wroteF
          rw [List.find?_isSome]
          exact ⟨m, hm, isW_mk h2 hs.symm rfl rfl⟩
        obtain ⟨x, hx⟩ := Option.isSome_iff_exists.1 hw
        have e := wroteF_out hx
        have hv : m.v = (m.v.toNat : Int) := by have := hfm.v; omega
        have hr : m.r = (m.r.toNat : Int) := by have := hfm.r; omega
        rw [hv, hr] at hx
        refine ⟨x, ?_, by omega, e.2.1⟩
        rw [allF_pre, List.mem_append, List.mem_append]
        exact .inl (.inr (wrotesF_mem (by have := hfm.v; omega) (by have := hfm.r; omega) hx))
      · obtain ⟨x, hx⟩ := Option.isSome_iff_exists.1 (acc_some (slotF l) l none (.inr ⟨m, hm, h3, hs.symm⟩))
        have hx : accF l = some x := hx
        have e := accF_out hx
        refine ⟨x, ?_, by omega, e.2⟩
        rw [allF_pre, List.mem_append]
        exact .inr (by simp [hx])
    obtain ⟨x, hx, hk, he⟩ := hx
    rw [← he]
    exact slotF_ge hx hk
theorem preF_k {l : List Vt} {m : Vt} (h : m ∈ preF l) : m.k = 1 := by rw [(mem_preF h).2]; rfl
theorem reg_allF {l : List Vt} (hf : ∀ m ∈ l, Fine m) : regF (allF l) = regF l := by
  have h1 : ∀ m ∈ wrotesF l 61 ++ (accF l).toList, m.k ≠ 1 := fun m hm => by
    rcases List.mem_append.1 hm with h | h
    · obtain ⟨v, r, _, _, hw⟩ := mem_wrotesF h
      have := wroteF_out hw; omega
    · have := accF_out (show accF l = some m by simpa using h); omega
  unfold regF
  rw [allF_pre, List.append_assoc, List.foldl_append, reg_skip _ _ h1]
  show (preF l).foldl regS (-1, -1) = regF l
  unfold preF
  by_cases h0 : 0 ≤ (regF l).1
  · rw [if_pos h0]
    show regS (-1, -1) (regV (regF l).1 (regF l).2) = regF l
    exact regS_if _ _ ⟨rfl, .inl (by show (-1 : Int) < (regF l).1; omega)⟩
  · rw [if_neg h0]
    rcases regF_cases l with h | ⟨m, hm, _, h⟩
    · exact h.symm
    · rw [h] at h0
      exact absurd (hf m hm).v.1 h0
theorem wrote_allF {l : List Vt} (hf : ∀ m ∈ l, Fine m) (x y : Int) : wroteF (allF l) x y = wroteF l x y := by
  have hp : (preF l).find? (isW (slotF l) x y) = none := by
    rw [List.find?_eq_none]
    intro m hm
    rw [isW_no (by have := preF_k hm; omega)]
    simp
  have ha : ((accF l).toList).find? (isW (slotF l) x y) = none := by
    rw [List.find?_eq_none]
    intro m hm
    have := accF_out (show accF l = some m by simpa using hm)
    rw [isW_no (by omega)]
    simp
  show (allF l).find? (isW (slotF (allF l)) x y) = _
  rw [slot_allF hf, allF_pre, List.find?_append, List.find?_append, hp, ha, Option.none_or, Option.or_none, find_wrotesF]
  by_cases h : (0 ≤ x ∧ x < ((61 : Nat) : Int)) ∧ 0 ≤ y ∧ y < 41
  · rw [if_pos h]
  · rw [if_neg h]
    cases hw : wroteF l x y with
    | none => rfl
    | some m =>
      have e := wroteF_out hw
      have hm := hf m (wroteF_mem hw)
      have h1 := hm.v
      have h2 := hm.r
      exact absurd ⟨⟨by omega, by omega⟩, by omega, by omega⟩ h
theorem acc_allF {l : List Vt} (hf : ∀ m ∈ l, Fine m) : accF (allF l) = accF l := by
  have h1 : ∀ m ∈ preF l ++ wrotesF l 61, m.k ≠ 3 := fun m hm => by
    rcases List.mem_append.1 hm with h | h
    · have := preF_k h; omega
    · obtain ⟨v, r, _, _, hw⟩ := mem_wrotesF h
      have := wroteF_out hw; omega
  show accQ (slotF (allF l)) (allF l) = accF l
  rw [slot_allF hf]
  unfold accQ
  rw [allF_pre, List.foldl_append, acc_skip _ _ _ h1]
  cases hc : accF l with
  | none => rfl
  | some y =>
    have := accF_out hc
    show accS (slotF l) none y = some y
    exact if_pos this
end Go.V
