/- O8: layer 4: what digits tell: the lists' side of the law OtsDigits. -/
import Derived.Test.YtigojjdoacfdgaaO2
namespace Go.V
theorem list_le_eq : ∀ (l m : List Nat), l.length = m.length → (∀ (k x y : Nat), l[k]? = some x → m[k]? = some y → y ≤ x) → l.sum ≤ m.sum → l = m
  | [], [], _, _, _ => rfl
  | [], _ :: _, h, _, _ => by simp at h
  | _ :: _, [], h, _, _ => by simp at h
  | x :: l, y :: m, hl, h, hs => by
    have h0 := h 0 x y rfl rfl
    have ht : ∀ (k u v : Nat), l[k]? = some u → m[k]? = some v → v ≤ u := fun k u v hu hv => h (k + 1) u v (by simpa using hu) (by simpa using hv)
    have hge : m.sum ≤ l.sum := by
      clear hs h h0
      have hl' : l.length = m.length := by simpa using hl
      clear hl
      induction l generalizing m with
      | nil => cases m with
        | nil => simp
        | cons _ _ => simp at hl'
      | cons a l ih => cases m with
        | nil => simp at hl'
        | cons b m =>
          have h1 := ht 0 a b rfl rfl
          have h2 := ih m (fun k u v hu hv => ht (k + 1) u v (by simpa using hu) (by simpa using hv)) (by simpa using hl')
          simp only [List.sum_cons]
          omega
    simp only [List.sum_cons] at hs
    have hxy : x = y := by omega
    rw [hxy, list_le_eq l m (by simpa using hl) ht (by omega)]
theorem lack_sum : ∀ h : List UInt8, lackF h + (nibF h).sum = 30 * h.length
  | [] => rfl
  | b :: h => by
    have := lack_sum h
    have := b.toNat_lt
    simp only [lackF, nibF, List.flatMap_cons, List.sum_append, List.sum_cons, List.sum_nil, List.length_cons] at *
    omega
theorem nib_inj : ∀ a b : List UInt8, nibF a = nibF b → a = b
  | [], [], _ => rfl
  | [], b :: t, h => by simp [nibF] at h
  | a :: s, [], h => by simp [nibF] at h
  | a :: s, b :: t, h => by
    simp only [nibF, List.flatMap_cons, List.cons_append, List.nil_append, List.cons.injEq] at h
    have e : a = b := UInt8.toNat_inj.1 (by omega)
    rw [e, nib_inj s t h.2.2]
theorem dig_nib (h : List UInt8) (_hl : 16 ≤ h.length) (k x : Nat) (hx : (nibF (h.take 16))[k]? = some x) : (digF h)[k]? = some x := by
  unfold digF
  rw [List.getElem?_append_left ((List.getElem?_eq_some_iff.1 hx).1)]
  exact hx
theorem dig_rest (h : List UInt8) (hl : 16 ≤ h.length) : (digF h)[32]? = some (lackF (h.take 16) / 256) ∧ (digF h)[33]? = some (lackF (h.take 16) / 16 % 16) ∧ (digF h)[34]? = some (lackF (h.take 16) % 16) := by
  have hn : (nibF (h.take 16)).length = 32 := by rw [len_nib, List.length_take]; omega
  unfold digF
  refine ⟨?_, ?_, ?_⟩ <;> rw [List.getElem?_append_right (by omega), hn] <;> rfl
/-- no digit below the other's: then the beginnings are one -/
theorem dig_ge (a b : List UInt8) (ha : 16 ≤ a.length) (hb : 16 ≤ b.length) (h : ∀ (k x y : Nat), (digF a)[k]? = some x → (digF b)[k]? = some y → y ≤ x) : a.take 16 = b.take 16 := by
  obtain ⟨a0, a1, a2⟩ := dig_rest a ha
  obtain ⟨b0, b1, b2⟩ := dig_rest b hb
  have c0 := h 32 _ _ a0 b0
  have c1 := h 33 _ _ a1 b1
  have c2 := h 34 _ _ a2 b2
  have la := lack_le (a.take 16)
  have lb := lack_le (b.take 16)
  have sa := lack_sum (a.take 16)
  have sb := lack_sum (b.take 16)
  have ta : (a.take 16).length = 16 := by rw [List.length_take]; omega
  have tb : (b.take 16).length = 16 := by rw [List.length_take]; omega
  rw [ta] at la sa
  rw [tb] at lb sb
  refine nib_inj _ _ (list_le_eq _ _ (by rw [len_nib, len_nib, ta, tb]) (fun k x y hx hy => h k x y (dig_nib a ha k x hx) (dig_nib b hb k y hy)) (by omega))
/-- is one of the first i below the other's? -/
def anyLt (D E : List Nat) (i : Nat) : Bool := (List.range i).any fun j => decide (D.getD j 0 < E.getD j 0)
def anyNe (a b : List UInt8) (i : Nat) : Bool := (List.range i).any fun j => decide (a.getD j 0 ≠ b.getD j 0)
theorem anyLt_succ (D E : List Nat) (i x y : Nat) (hx : D[i]? = some x) (hy : E[i]? = some y) : anyLt D E (i + 1) = (anyLt D E i || decide (x < y)) := by
  simp [anyLt, List.range_succ, List.getD, hx, hy]
theorem anyNe_succ (a b : List UInt8) (i : Nat) (x y : UInt8) (hx : a[i]? = some x) (hy : b[i]? = some y) : anyNe a b (i + 1) = (anyNe a b i || decide (x ≠ y)) := by
  simp [anyNe, List.range_succ, List.getD, hx, hy]
theorem anyNe_take (a b : List UInt8) (ha : 16 ≤ a.length) (hb : 16 ≤ b.length) : anyNe a b 16 = false ↔ a.take 16 = b.take 16 := by
  unfold anyNe
  rw [List.any_eq_false]
  constructor
  · intro h
    apply List.ext_getElem?
    intro j
    rw [List.getElem?_take, List.getElem?_take]
    by_cases hj : j < 16
    · have := h j (by simpa using hj)
      rw [if_pos hj, if_pos hj, List.getElem?_eq_getElem (by omega), List.getElem?_eq_getElem (by omega)]
      simp [List.getD, List.getElem?_eq_getElem (show j < a.length by omega), List.getElem?_eq_getElem (show j < b.length by omega)] at this
      rw [this]
    · rw [if_neg hj, if_neg hj]
  · intro h j hj
    have hj : j < 16 := by simpa using hj
    have := congrArg (fun l => l[j]?) h
    simp only [List.getElem?_take, if_pos hj] at this
    simp [List.getD, this]
theorem anyLt_law (a b : List UInt8) (ha : 16 ≤ a.length) (hb : 16 ≤ b.length) : anyNe a b 16 = anyLt (digF a) (digF b) 35 := by
  have la := len_dig a ha
  have lb := len_dig b hb
  cases hn : anyNe a b 16 with
  | false =>
    have ht := (anyNe_take a b ha hb).1 hn
    have hd : digF a = digF b := by unfold digF; rw [ht]
    rw [hd]
    symm
    unfold anyLt
    rw [List.any_eq_false]
    intro j hj
    simp
  | true =>
    cases hl : anyLt (digF a) (digF b) 35 with
    | true => rfl
    | false =>
      exfalso
      unfold anyLt at hl
      rw [List.any_eq_false] at hl
      have := dig_ge a b ha hb (fun k x y hx hy => by
        have hk : k < 35 := by have := (List.getElem?_eq_some_iff.1 hx).1; omega
        have := hl k (by simpa using hk)
        simp [List.getD, hx, hy] at this
        exact this)
      rw [(anyNe_take a b ha hb).2 this] at hn
      cases hn
theorem anyNe_comm (a b : List UInt8) (i : Nat) : anyNe a b i = anyNe b a i := by
  unfold anyNe
  congr 1
  funext j
  simp [eq_comm]
end Go.V
