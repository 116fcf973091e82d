/- Y2: layer 8: contracts of the document's Numbers, Long. -/
import Derived.Test.YthejallmkcohpaaY1
namespace Go.Proofs.Ythejallmkcohpaa
open Go.RowKit Go.V
set_option maxHeartbeats 1000000 in
theorem num8_any (m : Mg) (ub up : Value) (w : World) :
    Calls Try.prog 18 #[m.val ub up] w fun e w' => e = .returned (.bool (numB m)) ∧ Below w.heap.size w w' := by
  unfold Mg.val
  have hb := Blk.new' w 27 (m.l ub up)
  have hB : Below w.heap.size w (w.alloc (.cells (m.l ub up).toArray 27)) := (Below.refl _ _).alloc (Nat.le_refl _) _
  have c0 := hb.cellAt 0 _ rfl
  have c1 := hb.cellAt 1 _ rfl
  have c2 := hb.cellAt 2 _ rfl
  have c3 := hb.cellAt 3 _ rfl
  have c4 := hb.cellAt 4 _ rfl
  have hr : numB m = decide (1 ≤ m.k ∧ m.k ≤ 12 ∧ 0 ≤ m.f ∧ m.f ≤ 15 ∧ 0 ≤ m.v ∧ m.v ≤ 60 ∧ 0 ≤ m.r ∧ m.r ≤ 40 ∧ 0 ≤ m.s ∧ m.s ≤ 60) := rfl
  obtain ⟨q, hq⟩ : ∃ q, q = numB m := ⟨_, rfl⟩
  rw [← hq] at hr ⊢
  have Hr := hid hr
  clear hr hq
  go_enter Try.func18, Try.ntmps18
  go_wp2
  all_goals (go_ret; exact ⟨by rw [Hr.out]; exact ret_b (by rw [Bool.eq_iff_iff]; simp; try omega), hB⟩)
theorem long_t {m : Mg} (h : 3000 < m.b.length ∨ 20 < m.ps.length ∨ ∃ t ∈ m.ps, 3000 < t.length) : longB m = true := by
  unfold longB; rw [decide_eq_true_iff]; exact h
theorem long_f {m : Mg} (h1 : ¬ 3000 < m.b.length) (h2 : ¬ 20 < m.ps.length) (h3 : ∀ t ∈ m.ps, t.length ≤ 3000) : longB m = false := by
  unfold longB
  rw [decide_eq_false_iff_not]
  rintro (h | h | ⟨t, ht, h⟩)
  · exact h1 h
  · exact h2 h
  · have := h3 t ht; omega
set_option maxHeartbeats 1000000 in
theorem long8_any (m : Mg) (ub up : Value) (w : World) (hh : m.h.length = 32) (F1 F2 : Nat → Prop) (hub : Rd w F1 ub (bys m.b)) (hup : Rd w F2 up (tx m.ps)) :
    Calls Try.prog 7 #[m.val ub up] w fun e w' => e = .returned (.bool (longB m)) ∧ Below w.heap.size w w' := by
  obtain ⟨AB, cb, rfl⟩ := hub.shape
  obtain ⟨AP, cpp, rfl, _, _⟩ := hup.slShape
  unfold Mg.val
  have hvb := Blk.new' w 27 (m.l (.slice AB m.b.length cb) (.slice AP m.ps.length cpp))
  have hB : Below w.heap.size w (w.alloc (.cells (m.l (.slice AB m.b.length cb) (.slice AP m.ps.length cpp)).toArray 27)) := (Below.refl _ _).alloc (Nat.le_refl _) _
  have hup := hup.below hB
  have c0 := hvb.cellAt 37 _ (mg_body hh _ _)
  have c1 := hvb.cellAt 38 _ (mg_parts hh _ _)
  go_enter Try.func7, Try.ntmps7
  by_cases h1 : 3000 < m.b.length
  · have h1I : (3000 : Int) < (m.b.length : Int) := by omega
    go_wp2
    go_ret
    exact ⟨by rw [long_t (.inl h1)]; rfl, hB⟩
  have h1I : ¬ (3000 : Int) < (m.b.length : Int) := by omega
  by_cases h2 : 20 < m.ps.length
  · have h2I : (20 : Int) < (m.ps.length : Int) := by omega
    go_wp2
    go_ret
    exact ⟨by rw [long_t (.inr (.inl h2))]; rfl, hB⟩
  have h2I : ¬ (20 : Int) < (m.ps.length : Int) := by omega
  go_wp2
  obtain ⟨w0, hw0⟩ : ∃ x, x = w.alloc (.cells (m.l (.slice AB m.b.length cb) (.slice AP m.ps.length cpp)).toArray 27) := ⟨_, rfl⟩
  rw [← hw0] at hvb hB hup c0 c1 ⊢
  clear hw0 c0 c1
  obtain ⟨g, hg⟩ : ∃ g, g = w.heap.size := ⟨_, rfl⟩
  rw [← hg] at hvb ⊢
  clear hg
  go_loopw [3] (fun iv wr => ∃ i : Nat, i ≤ m.ps.length ∧ iv = .int .i64 i ∧ (∀ t ∈ m.ps.take i, t.length ≤ 3000) ∧ Below w0.heap.size w0 wr) (fun i _ => m.ps.length - (intOf i).toNat)
  case atStart => exact ⟨0, Nat.zero_le _, rfl, fun t h => by simp at h, Below.refl _ _⟩
  case round =>
    obtain ⟨i, hi, rfl, hall, hBr⟩ := hrel
    have Hall := hid hall
    clear hall
    have hBr' := hB.trans (hBr.mono hB.size)
    have c1 := (hvb.below hBr).cellAt 38 _ (mg_parts hh _ _)
    by_cases hlt : i < m.ps.length
    · obtain ⟨t, ht⟩ : ∃ t, m.ps[i]? = some t := ⟨_, List.getElem?_eq_getElem hlt⟩
      have hI : (i : Int) < (m.ps.length : Int) := by omega
      obtain ⟨G, off, u, rfl, hG, hcu, hu⟩ := Rd.elem (hup.below hBr) i (bys t) (by rw [List.getElem?_map, ht]; rfl)
      obtain ⟨A1, c1', rfl⟩ := hu.shape
      have Hmem := hid (List.mem_of_getElem? ht)
      have Htk := hid (take_snocT ht)
      clear ht
      by_cases h3 : 3000 < t.length
      · have h3I : (3000 : Int) < (t.length : Int) := by omega
        go_wp2
        go_ret
        exact ⟨by rw [long_t (.inr (.inr ⟨t, Hmem.out, h3⟩))]; rfl, hBr'⟩
      · have h3I : ¬ (3000 : Int) < (t.length : Int) := by omega
        go_wp2
        go_roundw
        case rel =>
          refine ⟨i + 1, by omega, by go_num, ?_, hBr⟩
          rw [Htk.out]
          intro x hx
          rw [List.mem_append] at hx
          rcases hx with hx | hx
          · exact Hall.out x hx
          · simp at hx; subst hx; omega
        case measure => simp [intOf]; omega
    · have hi' : i = m.ps.length := by omega
      subst hi'
      have hI : ¬ (m.ps.length : Int) < (m.ps.length : Int) := by omega
      have Hf := hid (long_f h1 h2 (by have := Hall.out; rwa [List.take_length] at this))
      go_wp2
      go_ret
      exact ⟨by rw [Hf.out]; rfl, hBr'⟩
end Go.Proofs.Ythejallmkcohpaa
