/- G0: layer 11: acts of a log as lists, in memory. -/
import Derived.Test.YtijhicfegbaadaaDoorLW
namespace Go.V
open Go.RowKit
structure Lc where
  k : Int
  n : Int
  b : List UInt8
  keep : Nat
  torn : Int
  cut : Int
def lcD : WD Lc 6 := ⟨fun a => [.atom (.int .i64 a.k), .atom (.int .i64 a.n), bys a.b, .atom (.int .u64 (a.keep : Int)), .atom (.int .i64 a.torn), .atom (.int .i64 a.cut)], fun _ => rfl, by omega⟩
def Lc.l (a : Lc) (u : Value) : List Value := [.int .i64 a.k, .int .i64 a.n, u, .int .u64 (a.keep : Int), .int .i64 a.torn, .int .i64 a.cut]
theorem lc_open {w : World} {F : Nat → Prop} {a : Lc} {cs : List Value} (h : WdEl w F lcD a cs) : ∃ u, cs = a.l u ∧ Rd w F u (bys a.b) := by
  obtain ⟨hl, ha⟩ := h
  match cs, hl with
  | [c0, c1, c2, c3, c4, c5], _ =>
    have h0 := ha 0 c0 _ rfl rfl
    have h1 := ha 1 c1 _ rfl rfl
    have h2 := ha 2 c2 _ rfl rfl
    have h3 := ha 3 c3 _ rfl rfl
    have h4 := ha 4 c4 _ rfl rfl
    have h5 := ha 5 c5 _ rfl rfl
    unfold Rd at h0 h1 h3 h4 h5
    subst h0 h1 h3 h4 h5
    exact ⟨c2, rfl, h2⟩
theorem lc_mk {w : World} {F : Nat → Prop} {a : Lc} {u : Value} (h : Rd w F u (bys a.b)) : WdEl w F lcD a (a.l u) :=
  ⟨rfl, fun j v d hv hd => by
    match j with
    | 0 => simp [Lc.l, lcD] at hv hd; subst hv hd; unfold Rd; rfl
    | 1 => simp [Lc.l, lcD] at hv hd; subst hv hd; unfold Rd; rfl
    | 2 => simp [Lc.l, lcD] at hv hd; subst hv hd; exact h
    | 3 => simp [Lc.l, lcD] at hv hd; subst hv hd; unfold Rd; rfl
    | 4 => simp [Lc.l, lcD] at hv hd; subst hv hd; unfold Rd; rfl
    | 5 => simp [Lc.l, lcD] at hv hd; subst hv hd; unfold Rd; rfl
    | j + 6 => simp [Lc.l] at hv⟩
theorem one_lc (a : Lc) (A : Option Addr) (n c : Nat) : ∀ v ∈ a.l (.slice A n c), v.oneCell' = true := by
  intro v hv
  simp [Lc.l] at hv
  rcases hv with rfl | rfl | rfl | rfl | rfl | rfl <;> rfl
def longL (l : List Lc) : Bool := decide (40 < l.length) || l.any fun a => decide (700 < a.b.length)
theorem longL_no {l : List Lc} (h1 : l.length ≤ 40) (h : ∀ (i : Nat) (a : Lc), l[i]? = some a → ¬ 700 < a.b.length) : longL l = false := by
  unfold longL
  rw [decide_eq_false (by omega), Bool.false_or, List.any_eq_false]
  intro a ha
  obtain ⟨i, hi⟩ := List.getElem?_of_mem ha
  simpa using h i a hi
theorem longL_yes {l : List Lc} {i : Nat} {a : Lc} (hi : l[i]? = some a) (h : 700 < a.b.length) : longL l = true := by
  unfold longL
  rw [List.any_eq_true.2 ⟨a, List.mem_of_getElem? hi, decide_eq_true h⟩, Bool.or_true]
theorem longL_len {l : List Lc} (h : 40 < l.length) : longL l = true := by
  unfold longL
  rw [decide_eq_true h, Bool.true_or]
theorem longL_out {l : List Lc} (h : longL l = false) : l.length ≤ 40 ∧ ∀ a ∈ l, a.b.length ≤ 700 := by
  unfold longL at h
  rw [Bool.or_eq_false_iff, decide_eq_false_iff_not, List.any_eq_false] at h
  refine ⟨by omega, fun a ha => ?_⟩
  have := h.2 a ha
  simpa using this
/-- the last n of a list -/
def lastF {α : Type} (l : List α) (n : Int) : List α := l.drop (l.length - (if n < 0 then 0 else if (l.length : Int) < n then l.length else n.toNat))
end Go.V
