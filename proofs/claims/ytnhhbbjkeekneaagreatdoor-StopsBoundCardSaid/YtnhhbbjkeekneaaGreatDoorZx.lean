/- Zx: layer 19, pure: how long a message is that was opened; steps of the parts' loop. -/
import Derived.Test.YtnhhbbjkeekneaaGreatDoorCr
import Derived.Test.YtnhhbbjkeekneaaGreatDoorCo
namespace Go.Proofs.YtnhhbbjkeekneaaGreatDoor
open Go.RowKit Go.V
theorem prt_bd : ∀ (c k : Nat) (X : List UInt8) (ts : List (List UInt8)) (k' : Nat), prtR c k X = .ok (ts, k') → ts.length = c ∧ ∀ t ∈ ts, t.length ≤ X.length
  | 0, k, X, ts, k', h => by
    simp only [prtR, Except.ok.injEq, Prod.mk.injEq] at h
    obtain ⟨rfl, rfl⟩ := h
    exact ⟨rfl, fun t h => by cases h⟩
  | c + 1, k, X, ts, k', h => by
    simp only [prtR] at h
    split at h
    · cases h
    · rename_i n z _
      split at h
      · cases h
      · rename_i us k2 hu
        injection h with h
        injection h with h1 h2
        subst h1 h2
        obtain ⟨h3, h4⟩ := prt_bd c _ X us k2 hu
        refine ⟨by rw [List.length_cons, h3], fun t ht => ?_⟩
        rcases List.mem_cons.1 ht with rfl | ht
        · rw [List.length_take, List.length_drop, List.length_drop]; omega
        · exact h4 t ht
theorem rdM_bd {X : List UInt8} {m : Mg} (h : rdM X = .ok m) : m.b.length ≤ X.length ∧ m.ps.length ≤ 16 ∧ ∀ t ∈ m.ps, t.length ≤ X.length := by
  unfold rdM at h
  split at h
  · cases h
  · split at h
    · cases h
    · rename_i n z _
      split at h
      · cases h
      · rename_i c y hc
        split at h
        · cases h
        · rename_i ts k ht
          split at h
          · cases h
          · split at h
            · injection h with h
              obtain ⟨h1, h2⟩ := prt_bd _ _ _ _ _ ht
              have hc16 : c ≤ 16 := cntR_le (most := 16) hc
              subst h
              refine ⟨?_, ?_, h2⟩
              · show (((X.drop 40).drop z).take n).length ≤ X.length
                rw [List.length_take, List.length_drop, List.length_drop]; omega
              · show ts.length ≤ 16
                omega
            · cases h
theorem opof_op {ks : List (List UInt8)} {V : Vc} {X : List UInt8} {m : Mg} (h : opOf ks V X = .ok m) : opR ks X = .ok m := by
  unfold opOf at h
  split at h
  · rename_i m' hm
    split at h
    · injection h with h
      subst h
      exact hm
    · cases h
  · cases h
theorem op_bd {ks : List (List UInt8)} {X : List UInt8} {m : Mg} (h : opR ks X = .ok m) : m.b.length ≤ X.length ∧ m.ps.length ≤ 16 ∧ ∀ t ∈ m.ps, t.length ≤ X.length := by
  unfold opR at h
  split at h
  · cases h
  · split at h
    · cases h
    · split at h
      · cases h
      · rename_i m' hm
        split at h
        · cases h
        · split at h
          · injection h with h
            subst h
            obtain ⟨h1, h2, h3⟩ := rdM_bd hm
            rw [List.length_take] at h1
            refine ⟨by omega, h2, fun t ht => ?_⟩
            have := h3 t ht
            rw [List.length_take] at this
            omega
          · cases h
/-- what holds of a message that was opened -/
theorem op_in {ks : List (List UInt8)} {X : List UInt8} {m : Mg} (h : opR ks X = .ok m) : MgIn m ∧ 0 ≤ m.f ∧ m.f ≤ 15 ∧ 0 ≤ m.r ∧ m.r ≤ 40 ∧ 0 ≤ m.s ∧ m.s ≤ 60 := by
  have hn := op_num h
  unfold numB at hn
  have hn := of_decide_eq_true hn
  obtain ⟨h1, h2, h3, h4, h5, h6, h7, h8, h9, h10⟩ := hn
  exact ⟨⟨⟨by omega, by omega⟩, ⟨by omega, by omega⟩, ⟨by omega, by omega⟩, ⟨by omega, by omega⟩, ⟨by omega, by omega⟩, op_hash h⟩, h3, h4, h7, h8, h9, h10⟩
/-! one part more -/
section
variable {ks : List (List UInt8)} {R : List Hx} {V : Vc} {first reg : Int} {a : List To} {X : List UInt8} {P : List (List UInt8)}
theorem tk_err {e : Nat} (h : opOf ks V X = .error e) : tkC ks R V first reg a (X :: P) = .error (e : Int) := by
  show (match opOf ks V X with | .error e => _ | .ok m => _) = _
  rw [h]
theorem tk_reg {m : Mg} (h : opOf ks V X = .ok m) (h1 : m.k ≠ 5 ∨ m.r ≠ reg) : tkC ks R V first reg a (X :: P) = .error 10 := by
  show (match opOf ks V X with | .error e => _ | .ok m => _) = _
  rw [h]
  exact if_pos h1
theorem tk_old {m : Mg} (h : opOf ks V X = .ok m) (h1 : ¬ (m.k ≠ 5 ∨ m.r ≠ reg)) (h2 : a.any (fun t => decide (t.f = m.f)) = true) : tkC ks R V first reg a (X :: P) = .error 7 := by
  show (match opOf ks V X with | .error e => _ | .ok m => _) = _
  rw [h]
  exact (if_neg h1).trans (if_pos h2)
theorem tk_val {m : Mg} (h : opOf ks V X = .ok m) (h1 : ¬ (m.k ≠ 5 ∨ m.r ≠ reg)) (h2 : ¬ a.any (fun t => decide (t.f = m.f)) = true) (h3 : (valC ks R V first m).1 ≠ 0) : tkC ks R V first reg a (X :: P) = .error (valC ks R V first m).1 := by
  show (match opOf ks V X with | .error e => _ | .ok m => _) = _
  rw [h]
  exact (if_neg h1).trans ((if_neg h2).trans (if_pos h3))
theorem tk_go {m : Mg} (h : opOf ks V X = .ok m) (h1 : ¬ (m.k ≠ 5 ∨ m.r ≠ reg)) (h2 : ¬ a.any (fun t => decide (t.f = m.f)) = true) (h3 : (valC ks R V first m).1 = 0) : tkC ks R V first reg a (X :: P) = tkC ks R V first reg (a ++ [⟨m.f, (valC ks R V first m).2, val_len ks R V first m⟩]) P := by
  show (match opOf ks V X with | .error e => _ | .ok m => _) = _
  rw [h]
  exact (if_neg h1).trans ((if_neg h2).trans (if_neg (fun h => h h3)))
end
end Go.Proofs.YtnhhbbjkeekneaaGreatDoor
