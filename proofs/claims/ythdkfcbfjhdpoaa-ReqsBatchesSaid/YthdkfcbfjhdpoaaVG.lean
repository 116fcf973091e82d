/- VG: words: rows of ints, make of an empty slice. No project text. -/
import Derived.Test.YthdkfcbfjhdpoaaV
namespace Go.V
open Go.RowKit
/-- a stop for the walk -/
def StopW (P : Program) (ops : Array Oper) (Q : Exit → Act → World → Prop) (l : List Oper) (a : Act) (w : World) : Prop := wpList P ops Q l a w
theorem wp_stop {P : Program} {ops : Array Oper} {Q : Exit → Act → World → Prop} {l : List Oper} {a : Act} {w : World} (h : StopW P ops Q l a w) : wpList P ops Q l a w := h
theorem wp_go {P : Program} {ops : Array Oper} {Q : Exit → Act → World → Prop} {l : List Oper} {a : Act} {w : World} (h : wpList P ops Q l a w) : StopW P ops Q l a w := h
def ivs (l : List Nat) : List Value := l.map fun (n : Nat) => .int .i64 (n : Int)
theorem len_ivs (l : List Nat) : (ivs l).length = l.length := by simp [ivs]
theorem oneCell_ivs (l : List Nat) : ∀ u ∈ ivs l, u.oneCell' = true := by
  intro u hu
  simp [ivs] at hu
  obtain ⟨c, _, rfl⟩ := hu
  rfl
theorem ivs_at (l : List Nat) (j n : Nat) (h : l[j]? = some n) : (ivs l)[j]? = some (.int .i64 (n : Int)) := by simp [ivs, h]
/-- a row's cells, in its own words -/
theorem own_cellAt {w : World} {base : Nat} {e : TypeId} {v : Value} {n : Nat} {xs : List Value} (h : w.ownsRow base e 1 v n xs) (j : Nat) (u : Value) (hu : xs[j]? = some u) : ∃ g c, v = .slice (some ⟨g, 0, none⟩) n c ∧ base ≤ g ∧ g < w.heap.size ∧ w.cell? ⟨g, j, none⟩ = some u := by
  rcases h.2 with ⟨rfl, rfl⟩ | ⟨g, cap, cur, rfl, hg, hh, h1, h2, h3, h4⟩
  · have := h.1
    rw [List.eq_nil_of_length_eq_zero (by omega : xs.length = 0)] at hu
    simp at hu
  · refine ⟨g, cap, rfl, hg, lt_of_block hh, ?_⟩
    have := h.cells (g := g) rfl j u hu
    rwa [add_mk, Nat.zero_add] at this
theorem own_ivs {w : World} {base : Nat} {e : TypeId} {v : Value} {n : Nat} {D : List Nat} (h : w.ownsRow base e 1 v n (ivs D)) (hn : 0 < n) : ∃ g c, v = .slice (some ⟨g, 0, none⟩) n c ∧ base ≤ g ∧ g < w.heap.size ∧ ∀ (j k : Nat), D[j]? = some k → w.cell? ⟨g, j, none⟩ = some (.int .i64 (k : Int)) := by
  have hl : D.length = n := by have := h.1; rw [len_ivs] at this; omega
  obtain ⟨k0, hk0⟩ : ∃ k, D[0]? = some k := ⟨_, List.getElem?_eq_getElem (by omega)⟩
  obtain ⟨g, c, rfl, hg, hlt, _⟩ := own_cellAt h 0 _ (ivs_at D 0 k0 hk0)
  refine ⟨g, c, rfl, hg, hlt, fun j k hk => ?_⟩
  obtain ⟨g', c', e, _, _, hc⟩ := own_cellAt h j _ (ivs_at D j k hk)
  injection e with e1
  injection e1 with e1
  injection e1 with e2
  subst e2
  exact hc
theorem own_weak {w : World} {base base' : Nat} {e : TypeId} {s : Nat} {v : Value} {n : Nat} {xs : List Value} (h : w.ownsRow base e s v n xs) (hb : base' ≤ base) : w.ownsRow base' e s v n xs := by
  refine ⟨h.1, ?_⟩
  rcases h.2 with h0 | ⟨g, cap, cur, hv, hg, hr⟩
  · exact .inl h0
  · exact .inr ⟨g, cap, cur, hv, by omega, hr⟩
theorem own_bel {w w' : World} {base : Nat} {e : TypeId} {s : Nat} {v : Value} {n : Nat} {xs : List Value} (h : w.ownsRow base e s v n xs) (hB : Below w.heap.size w w') : w'.ownsRow base e s v n xs := by
  refine ⟨h.1, ?_⟩
  rcases h.2 with h0 | ⟨g, cap, cur, hv, hg, hh, hr⟩
  · exact .inl h0
  · exact .inr ⟨g, cap, cur, hv, hg, (hB.block g (lt_of_block hh)).trans hh, hr⟩
theorem ivs_snoc (l : List Nat) (n : Nat) : ivs (l ++ [n]) = ivs l ++ [.int .i64 (n : Int)] := by simp [ivs]
section
variable {P : Program} {w : World} {ops : Array Oper} {rest : List Oper} {o : Oper} {a : Act} {Q : Exit → Act → World → Prop}
/-- 'make([]T, 0, c)' -/
theorem wp_mk0 {t e : TypeId} {z : Value} {by_ : Nat} (ht : SlT P t e z by_) (_hz : z.cells = #[z]) (x y : Operand) (hgd : o.guard = none) (ho : o.op = .makeSlice t x y) (c : Nat)
    (hx : a.eval x = .int .i64 0) (hy : a.eval y = .int .i64 (c : Int)) (hb : by_ * c ≤ 281474976710656) (hm : c ≤ maxLen)
    (h : ∀ w', w'.ownsRow w.heap.size e 1 (.slice (some ⟨w.heap.size, 0, none⟩) 0 c) 0 [] → Below w.heap.size w w' → wpList P ops Q rest (a.put o.dst (.slice (some ⟨w.heap.size, 0, none⟩) 0 c)) w') : wpList P ops Q (o :: rest) a w := by
  refine wpList_plain hgd fun K hK => ?_
  obtain ⟨i, hi, hzz, hsz, hby⟩ := ht.inf
  have h63 : (c : Int) ≤ 9223372036854775807 := by simp [maxLen] at hm; omega
  have hb' : (i.bytes : Int) * (c : Int) ≤ 281474976710656 := by
    have : ((i.bytes * c : Nat) : Int) ≤ 281474976710656 := by rw [hby]; omega
    rwa [Int.natCast_mul] at this
  have hr := run_make (P := P) (w := w) t e i z ht.sl hi hzz .i64 .i64 0 c (by omega) (by omega) hb' h63
  unfold Oper.wp execOp
  simp only [ho, hx, hy, Sem.run_bind, Sem.run_pure, hr, Result.andThen_ok]
  refine hK _ _ ?_
  have e0 : (0 : Int).toNat = 0 := rfl
  simp only [Int.toNat_natCast, e0]
  exact h _ (World.ownsRow_made w _ c (Nat.le_refl _) hm (by simp [madeCells, hsz])) ((Below.refl _ _).alloc (Nat.le_refl _) _)
end
end Go.V
