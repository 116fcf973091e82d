/- A5: layer 15: lists of batches; the laws' long. -/
import Derived.Test.YtfjgfaccfjdklaaA4
namespace Go.Proofs.Ytfjgfaccfjdklaa
open Go.RowKit Go.V
/-- a list of batches -/
def bts (l : List (List Rq)) : Dat := .sl l.length (l.map rqs)
def longB (l : List (List Rq)) : Bool := decide (30 < l.length ∨ ∃ x ∈ l, 10 < x.length)
theorem bts_el {w : World} {F : Nat → Prop} {A : Option Addr} {c : Nat} {l : List (List Rq)} (h : Rd w F (.slice A l.length c) (bts l)) {i : Nat} {x : List Rq} (hx : l[i]? = some x) :
    ∃ g off G cp, A = some ⟨g, off, none⟩ ∧ w.cell? ⟨g, off + i, none⟩ = some (.slice G x.length cp) ∧ Rd w F (.slice G x.length cp) (rqs x) := by
  obtain ⟨g, off, u, hA, _, hc, hr⟩ := h.elem i (rqs x) (by rw [List.getElem?_map, hx]; rfl)
  obtain ⟨G, cp, rfl⟩ := rqs_shape hr
  exact ⟨g, off, G, cp, hA, hc, hr⟩
theorem bts_shape {w : World} {F : Nat → Prop} {v : Value} {l : List (List Rq)} (h : Rd w F v (bts l)) : ∃ A c, v = .slice A l.length c := by
  obtain ⟨A, c, hv, _, _⟩ := Rd.slShape h
  exact ⟨A, c, hv⟩
set_option maxRecDepth 100000 in
set_option maxHeartbeats 2000000 in
theorem long15_any (l : List (List Rq)) (v : Value) (F : Nat → Prop) (w : World) (h : Rd w F v (bts l)) :
    Calls Try.prog 7 #[v] w fun e w' => e = .returned (.bool (longB l)) ∧ Below w.heap.size w w' := by
  obtain ⟨A, c, rfl⟩ := bts_shape h
  obtain ⟨Z, hZ⟩ : ∃ Z, Z = longB l := ⟨_, rfl⟩
  have HZ : Hid (Z = decide (30 < l.length ∨ ∃ x ∈ l, 10 < x.length)) := hZ
  rw [← hZ]
  clear hZ
  go_enter Try.func7, Try.ntmps7
  by_cases h30 : 30 < l.length
  · have hI : (30 : Int) < (l.length : Int) := by omega
    have Hz : Hid (Z = true) := HZ.out.trans (decide_eq_true (.inl h30))
    clear HZ
    go_wp2
    go_ret
    exact ⟨by rw [Hz.out]; rfl, Below.refl _ _⟩
  · have hI : ¬ (30 : Int) < (l.length : Int) := by omega
    go_wp2
    go_loopw [9] (fun iv wr => ∃ i : Nat, i ≤ l.length ∧ iv = .int .i64 i ∧ Hid (∀ j x, j < i → l[j]? = some x → x.length ≤ 10) ∧ wr = w) (fun i _ => l.length - (intOf i).toNat)
    case atStart => exact ⟨0, Nat.zero_le _, rfl, hid (fun j x hj => absurd hj (Nat.not_lt_zero _)), rfl⟩
    case round =>
      obtain ⟨i, hi, rfl, hs, rfl⟩ := hrel
      by_cases hlt : i < l.length
      · have hI2 : (i : Int) < (l.length : Int) := by omega
        obtain ⟨x, hx⟩ : ∃ x, l[i]? = some x := ⟨_, List.getElem?_eq_getElem hlt⟩
        obtain ⟨g, off, G, cp, rfl, hc, _⟩ := bts_el h hx
        have Hx := hid hx
        clear hx
        by_cases h10 : 10 < x.length
        · have hI3 : (10 : Int) < (x.length : Int) := by omega
          have Hz : Hid (Z = true) := HZ.out.trans (decide_eq_true (.inr ⟨x, List.mem_of_getElem? Hx.out, h10⟩))
          clear HZ
          go_wp2
          go_ret
          exact ⟨by rw [Hz.out]; rfl, Below.refl _ _⟩
        · have hI3 : ¬ (10 : Int) < (x.length : Int) := by omega
          have Hs := hid (fun j y (hj : j < i + 1) (hy : l[j]? = some y) => show y.length ≤ 10 from by
            rcases Nat.lt_or_ge j i with h' | h'
            · exact hs.out j y h' hy
            · have e : j = i := by omega
              subst e
              have := hy.symm.trans Hx.out
              injection this with this
              subst this
              omega)
          go_wp2
          go_roundw
          case rel => exact ⟨i + 1, by omega, by go_num, Hs, by trivial⟩
          case measure => simp [intOf]; omega
      · have hi' : i = l.length := by omega
        subst hi'
        have hI2 : ¬ (l.length : Int) < (l.length : Int) := by omega
        have Hz : Hid (Z = false) := HZ.out.trans (decide_eq_false (fun h' => by
          rcases h' with h' | ⟨x, hx, h'⟩
          · omega
          · obtain ⟨j, hj⟩ := List.mem_iff_getElem?.1 hx
            have hjl : j < l.length := by
              rcases Nat.lt_or_ge j l.length with h | h
              · exact h
              · rw [List.getElem?_eq_none h] at hj; cases hj
            have := hs.out j x hjl hj
            omega))
        clear HZ
        go_wp2
        go_ret
        exact ⟨by rw [Hz.out]; rfl, Below.refl _ _⟩
end Go.Proofs.Ytfjgfaccfjdklaa
