/- DL: layer 10: long, right. -/
import Derived.Test.YtjaiffefgjopmaaDP
namespace Go.V
open Go.RowKit
def bigA (a : Ac) : Bool := decide (300 < a.b.length) || decide (40 < a.n.size) || decide (40 < a.t.size)
def longF (l : List Ac) : Bool := decide (80 < l.length) || l.any bigA
theorem longF_no {l : List Ac} (h1 : l.length ≤ 80) (h : ∀ (i : Nat) (a : Ac), l[i]? = some a → bigA a = false) : longF l = false := by
  unfold longF
  rw [decide_eq_false (by omega), Bool.false_or, List.any_eq_false]
  intro a ha
  obtain ⟨i, hi⟩ := List.getElem?_of_mem ha
  simp [h i a hi]
theorem longF_yes {l : List Ac} {i : Nat} {a : Ac} (hi : l[i]? = some a) (h : bigA a = true) : longF l = true := by
  unfold longF
  rw [List.any_eq_true.2 ⟨a, List.mem_of_getElem? hi, h⟩, Bool.or_true]
theorem longF_len {l : List Ac} (h : 80 < l.length) : longF l = true := by
  unfold longF
  rw [decide_eq_true h, Bool.true_or]
theorem longF_out {l : List Ac} (h : longF l = false) : l.length ≤ 80 ∧ ∀ a ∈ l, a.b.length ≤ 300 ∧ a.n.size ≤ 40 ∧ a.t.size ≤ 40 := by
  unfold longF at h
  rw [Bool.or_eq_false_iff, decide_eq_false_iff_not, List.any_eq_false] at h
  refine ⟨by omega, fun a ha => ?_⟩
  have h2 := h.2 a ha
  unfold bigA at h2
  simp at h2
  omega
end Go.V
namespace Go.Proofs.Ytjaiffefgjopmaa
open Go.RowKit Go.V
theorem right_any10 (a : Ac) (va : Value) (w : World) :
    Calls Try.prog 13 #[.agg (a.l va).toArray] w fun e w' => e = .returned (.bool (decide (0 ≤ a.k ∧ a.k ≤ 7))) ∧ Below w.heap.size w w' := by
  have hal : Below w.heap.size w (w.alloc (.cells (a.l va).toArray 34)) := (Below.refl _ _).alloc (Nat.le_refl _) _
  have hab := Blk.new' w 34 (a.l va)
  have k0 := hab.cellAt 0 _ rfl
  obtain ⟨x, hx⟩ : ∃ x, x = decide (0 ≤ a.k ∧ a.k ≤ 7) := ⟨_, rfl⟩
  rw [← hx]
  have Hx := hid hx
  clear hx
  by_cases h0 : 0 ≤ a.k
  · have e0 : decide (0 ≤ a.k) = true := decide_eq_true h0
    by_cases h7 : a.k ≤ 7
    · have e7 : decide (a.k ≤ 7) = true := decide_eq_true h7
      have Hr : Hid (x = true) := by show _ = _; rw [Hx.out]; exact decide_eq_true ⟨h0, h7⟩
      clear h0 h7 Hx
      go_enter Try.func13, Try.ntmps13
      go_wp2
      go_ret
      exact ⟨by rw [Hr.out]; rfl, hal⟩
    · have e7 : decide (a.k ≤ 7) = false := decide_eq_false h7
      have Hr : Hid (x = false) := by show _ = _; rw [Hx.out]; exact decide_eq_false (fun h => h7 h.2)
      clear h0 h7 Hx
      go_enter Try.func13, Try.ntmps13
      go_wp2
      go_ret
      exact ⟨by rw [Hr.out]; rfl, hal⟩
  · have e0 : decide (0 ≤ a.k) = false := decide_eq_false h0
    have Hr : Hid (x = false) := by show _ = _; rw [Hx.out]; exact decide_eq_false (fun h => h0 h.1)
    clear h0 Hx
    go_enter Try.func13, Try.ntmps13
    go_wp2
    go_ret
    exact ⟨by rw [Hr.out]; rfl, hal⟩
set_option maxRecDepth 100000 in
set_option maxHeartbeats 2000000 in
theorem long_any10 (l : List Ac) (vl : Value) (F : Nat → Prop) (w : World) (hl : Rd w F vl (wds acD l)) :
    Calls Try.prog 10 #[vl] w fun e w' => e = .returned (.bool (longF l)) ∧ w' = w := by
  obtain ⟨A, c, rfl, hc1, hc2⟩ := wds_shape hl
  have hcl : l.length ≤ 9223372036854775807 := by simp [maxLen] at hc2; omega
  obtain ⟨x, hx⟩ : ∃ x, x = longF l := ⟨_, rfl⟩
  rw [← hx]
  have Hx := hid hx
  clear hx
  by_cases h80 : 80 < l.length
  · have Hr : Hid (x = true) := by show _ = _; rw [Hx.out]; exact longF_len h80
    have hI : (80 : Int) < (l.length : Int) := by omega
    go_enter Try.func10, Try.ntmps10
    go_wp2
    go_ret
    exact ⟨by rw [Hr.out]; rfl, rfl⟩
  have hI8 : ¬ (80 : Int) < (l.length : Int) := by omega
  go_enter Try.func10, Try.ntmps10
  go_wp2
  go_loopw [9] (fun iv wr => ∃ i : Nat, i ≤ l.length ∧ iv = .int .i64 i ∧ Hid (∀ j a, j < i → l[j]? = some a → bigA a = false) ∧ wr = w) (fun i _ => l.length - (intOf i).toNat)
  case atStart => exact ⟨0, Nat.zero_le _, rfl, fun j a hj => absurd hj (Nat.not_lt_zero _), rfl⟩
  case round =>
    obtain ⟨i, hi, rfl, hall, rfl⟩ := hrel
    by_cases hlt : i < l.length
    · obtain ⟨a, ha⟩ : ∃ a, l[i]? = some a := ⟨_, List.getElem?_eq_getElem hlt⟩
      have hI : (i : Int) < (l.length : Int) := by omega
      obtain ⟨g, off, cs, rfl, hg, hr, he⟩ := wd_el hl ha
      obtain ⟨u, rfl, hu⟩ := ac_open he
      obtain ⟨Au, cu, rfl⟩ := hu.shape
      have c1 : wr.cell? ⟨g, off + i * 8 + 1, none⟩ = some (.string a.n) := hr 1 _ rfl
      have c2 : wr.cell? ⟨g, off + i * 8 + 2, none⟩ = some (.string a.t) := hr 2 _ rfl
      have c3 : wr.cell? ⟨g, off + i * 8 + 3, none⟩ = some (.slice Au a.b.length cu) := hr 3 _ rfl
      have Hyes : Hid (bigA a = true → x = true) := fun h => by rw [Hx.out]; exact longF_yes ha h
      have Ha := hid ha
      clear ha he hr
      by_cases hb : 300 < a.b.length
      · have hB : decide ((300 : Int) < (a.b.length : Int)) = true := decide_eq_true (by omega)
        have Hr := hid (Hyes.out (by unfold bigA; rw [decide_eq_true hb]; rfl))
        clear hb Hyes hall
        go_wp2_with (first | refine wp_ixa 22 (.tmp 12) (.tmp 13) rfl rfl rfl rfl Try.underlying22 hlt sizeAc ?_)
        go_ret
        exact ⟨by rw [Hr.out]; rfl, rfl⟩
      · have hB : decide ((300 : Int) < (a.b.length : Int)) = false := decide_eq_false (by omega)
        by_cases hn : 40 < a.n.size
        · have hN : decide ((40 : Int) < (a.n.size : Int)) = true := decide_eq_true (by omega)
          have Hr := hid (Hyes.out (by unfold bigA; rw [decide_eq_true hn]; simp))
          clear hb hn Hyes hall
          go_wp2_with (first | refine wp_ixa 22 (.tmp 12) (.tmp 13) rfl rfl rfl rfl Try.underlying22 hlt sizeAc ?_ | refine wp_ixag 22 (.tmp 20) (.tmp 21) rfl rfl rfl rfl Try.underlying22 hlt sizeAc ?_)
          go_ret
          exact ⟨by rw [Hr.out]; rfl, rfl⟩
        · have hN : decide ((40 : Int) < (a.n.size : Int)) = false := decide_eq_false (by omega)
          by_cases ht : 40 < a.t.size
          · have hT : decide ((40 : Int) < (a.t.size : Int)) = true := decide_eq_true (by omega)
            have Hr := hid (Hyes.out (by unfold bigA; rw [decide_eq_true ht]; simp))
            clear hb hn ht Hyes hall
            go_wp2_with (first | refine wp_ixa 22 (.tmp 12) (.tmp 13) rfl rfl rfl rfl Try.underlying22 hlt sizeAc ?_ | refine wp_ixag 22 (.tmp 20) (.tmp 21) rfl rfl rfl rfl Try.underlying22 hlt sizeAc ?_ | refine wp_ixag 22 (.tmp 29) (.tmp 30) rfl rfl rfl rfl Try.underlying22 hlt sizeAc ?_)
            go_ret
            exact ⟨by rw [Hr.out]; rfl, rfl⟩
          · have hT : decide ((40 : Int) < (a.t.size : Int)) = false := decide_eq_false (by omega)
            have Hbig : Hid (bigA a = false) := by show _ = _; unfold bigA; rw [decide_eq_false hb, decide_eq_false hn, decide_eq_false ht]; rfl
            clear hb hn ht Hyes
            go_wp2_with (first | refine wp_ixa 22 (.tmp 12) (.tmp 13) rfl rfl rfl rfl Try.underlying22 hlt sizeAc ?_ | refine wp_ixag 22 (.tmp 20) (.tmp 21) rfl rfl rfl rfl Try.underlying22 hlt sizeAc ?_ | refine wp_ixag 22 (.tmp 29) (.tmp 30) rfl rfl rfl rfl Try.underlying22 hlt sizeAc ?_)
            go_roundw
            case rel => exact ⟨i + 1, by omega, by go_num, fun j y hj hy => by
              rcases Nat.lt_or_ge j i with h | h
              · exact hall.out j y h hy
              · have : j = i := by omega
                subst this
                rw [Ha.out] at hy
                injection hy with hy
                subst hy
                exact Hbig.out, trivial⟩
            case measure => simp [intOf]; omega
    · have hi' : i = l.length := by omega
      subst hi'
      have hI : ¬ (l.length : Int) < (l.length : Int) := by omega
      have Hr : Hid (x = false) := by show _ = _; rw [Hx.out]; exact longF_no (by omega) (fun j a ha => hall.out j a (List.getElem?_eq_some_iff.1 ha).1 ha)
      go_wp2
      go_ret
      exact ⟨by rw [Hr.out]; rfl, rfl⟩
end Go.Proofs.Ytjaiffefgjopmaa
