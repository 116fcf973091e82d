/- LW: several texts in one (CK LW). -/
import Derived.Test.YthbbpfnfnnmdnaaDoorVA
import Derived.Deep.RegionHeld3
/- CK: short forms of the steps of a walk through a region that draws its order. No project text. -/
namespace Go.V
open Go.RowKit
theorem nP : (∀ (a : Act) (d : Option Tmp) (v : Value), a.put d v = (match d with | some t => { a with tmps := a.tmps.setIfInBounds t v } | none => a)) ∧ (∀ (l : List Value) (i : Nat) (v : Value), l.toArray.setIfInBounds i v = (l.set i v).toArray) ∧ (∀ (l : List Bool) (i : Nat) (v : Bool), l.toArray.setIfInBounds i v = (l.set i v).toArray)
    ∧ (∀ (x v : Value) (l : List Value), (x :: l).set 0 v = v :: l) ∧ (∀ (x v : Value) (l : List Value) (n : Nat), (x :: l).set (n + 1) v = x :: l.set n v) ∧ (∀ (x v : Bool) (l : List Bool), (x :: l).set 0 v = v :: l) ∧ (∀ (x v : Bool) (l : List Bool) (n : Nat), (x :: l).set (n + 1) v = x :: l.set n v) := by
  refine ⟨fun a d v => ?_, fun l i v => ?_, fun l i v => ?_, fun _ _ _ => rfl, fun _ _ _ _ => rfl, fun _ _ _ => rfl, fun _ _ _ _ => rfl⟩
  · cases d <;> rfl
  · exact List.setIfInBounds_toArray ..
  · exact List.setIfInBounds_toArray ..
section
variable {P : Program} {md : Region.Mode} {ops : Array Oper} {Q : Exit → Act → World → Prop} {S : World → Prop} {fuel : Nat} {listed l' : Array Bool} {a a' : Act} {w : World} {o : Oper} {v : Value} {d : Option Tmp} {p : Op} {ty : TypeId} {ps : String} {af : Array Edge} {g : Option (Nat × Bool)}
/-- operation i first, by what it yields -/
theorem tkY (i : Nat) (hi : ops[i]? = some ⟨d, p, ty, ps, af, g⟩) (hy : YieldsIf P ops S ⟨d, p, ty, ps, af, g⟩ v a) (h : wpAnyH P md ops Q S fuel l' a' w)
    (hs : Region.noSelect ops = true := by kernel_rfl) (hf : Region.free md ops listed i = true := by kernel_rfl) (hr : (Region.ready md ops listed).contains i = true := by kernel_rfl)
    (hQ : ∀ c a w, Q (.panic c) (a.put d v) w → Q (.panic c) a w := by exact fun _ _ _ h => h) (hS : S w := by assumption)
    (hl : listed.setIfInBounds i true = l' := by (try simp only [List.setIfInBounds_toArray, List.set_cons_zero, List.set_cons_succ]) <;> rfl)
    (hp : a.put d v = a' := by (try simp only [Act.put, List.setIfInBounds_toArray, List.set_cons_zero, List.set_cons_succ]) <;> rfl) : wpAnyH P md ops Q S (fuel + 1) listed a w := by
  subst hl hp
  exact wpAnyH_take hi hs hf hr hQ hy hS h
/-- operation i first: it reckons -/
theorem tkP (i : Nat) (hi : ops[i]? = some ⟨d, p, ty, ps, af, g⟩) (h : wpAnyH P md ops Q S fuel l' a' w)
    (hy : YieldsIf P ops S ⟨d, p, ty, ps, af, g⟩ v a := by exact .inl ⟨by rfl, fun w hSw => by go_simp; try with_reducible rfl⟩)
    (hs : Region.noSelect ops = true := by kernel_rfl) (hf : Region.free md ops listed i = true := by kernel_rfl) (hr : (Region.ready md ops listed).contains i = true := by kernel_rfl)
    (hQ : ∀ c a w, Q (.panic c) (a.put d v) w → Q (.panic c) a w := by exact fun _ _ _ h => h) (hS : S w := by assumption)
    (hl : listed.setIfInBounds i true = l' := by (try simp only [List.setIfInBounds_toArray, List.set_cons_zero, List.set_cons_succ]) <;> rfl)
    (hp : a.put d v = a' := by (try simp only [Act.put, List.setIfInBounds_toArray, List.set_cons_zero, List.set_cons_succ]) <;> rfl) : wpAnyH P md ops Q S (fuel + 1) listed a w := by
  subst hl hp
  exact wpAnyH_take hi hs hf hr hQ hy hS h
/-- operation i first: it isn't wanted -/
theorem tkS (i : Nat) (hi : ops[i]? = some ⟨d, p, ty, ps, af, g⟩) (h : wpAnyH P md ops Q S fuel l' a' w)
    (hy : Region.wanted ⟨d, p, ty, ps, af, g⟩ (yielded ops a.tmps) = false := by rfl)
    (hs : Region.noSelect ops = true := by kernel_rfl) (hf : Region.free md ops listed i = true := by kernel_rfl) (hr : (Region.ready md ops listed).contains i = true := by kernel_rfl)
    (hQ : ∀ c a w, Q (.panic c) (a.put d undef) w → Q (.panic c) a w := by exact fun _ _ _ h => h) (hS : S w := by assumption)
    (hl : listed.setIfInBounds i true = l' := by (try simp only [List.setIfInBounds_toArray, List.set_cons_zero, List.set_cons_succ]) <;> rfl)
    (hp : a.put d undef = a' := by (try simp only [Act.put, List.setIfInBounds_toArray, List.set_cons_zero, List.set_cons_succ]) <;> rfl) : wpAnyH P md ops Q S (fuel + 1) listed a w := by
  subst hl hp
  exact wpAnyH_take hi hs hf hr hQ (.inr ⟨hy, rfl⟩) hS h
/-- operation i first, by a fact of a cell -/
theorem tkF (i : Nat) (hi : ops[i]? = some ⟨d, p, ty, ps, af, g⟩) {C : World → Prop} (hC : ∀ w, S w → C w) (h : wpAnyH P md ops Q S fuel l' a' w)
    (hy : (∀ w, S w → C w) → YieldsIf P ops S ⟨d, p, ty, ps, af, g⟩ v a := by exact fun hC => .inl ⟨by rfl, fun w hSw => by have hcw := hC w hSw; go_simp; try with_reducible rfl⟩)
    (hs : Region.noSelect ops = true := by kernel_rfl) (hf : Region.free md ops listed i = true := by kernel_rfl) (hr : (Region.ready md ops listed).contains i = true := by kernel_rfl)
    (hQ : ∀ c a w, Q (.panic c) (a.put d v) w → Q (.panic c) a w := by exact fun _ _ _ h => h) (hS : S w := by assumption)
    (hl : listed.setIfInBounds i true = l' := by (try simp only [List.setIfInBounds_toArray, List.set_cons_zero, List.set_cons_succ]) <;> rfl)
    (hp : a.put d v = a' := by (try simp only [Act.put, List.setIfInBounds_toArray, List.set_cons_zero, List.set_cons_succ]) <;> rfl) : wpAnyH P md ops Q S (fuel + 1) listed a w := by
  subst hl hp
  exact wpAnyH_take hi hs hf hr hQ (hy hC) hS h
/-- the one operation that may come up -/
theorem rdH (i : Nat) (hi : ops[i]? = some ⟨d, p, ty, ps, af, g⟩)
    (h : ∀ K' : Act → World → Prop, Shut (∀ a w, S w → (S w → wpAnyH P md ops Q S fuel (listed.setIfInBounds i true) a w) → K' a w) → if Region.wanted ⟨d, p, ty, ps, af, g⟩ (yielded ops a.tmps) = true then Oper.wp P ⟨d, p, ty, ps, af, g⟩ a w K' Q else K' (a.put d undef) w)
    (hr : Region.ready md ops listed = [i] := by kernel_rfl) : wpAnyH P md ops Q S (fuel + 1) listed a w := wpAnyH_ready hr (by simp) (AllReadyH.cons hi h AllReadyH.nil)
end
end Go.V
/- LW: lists of structs in memory, whatever the struct: k cells each, told by their data. No project text. -/
namespace Go.V
open Go.RowKit
/-- how an element is told: k data, one a cell -/
structure WD (α : Type) (k : Nat) where
  dat : α → List Dat
  len : ∀ a, (dat a).length = k
  pos : 0 < k
variable {α : Type} {k : Nat}
def wds (T : WD α k) (l : List α) : Dat := .sl l.length (l.flatMap T.dat)
/-- cells that are an element -/
structure WdEl (w : World) (F : Nat → Prop) (T : WD α k) (a : α) (cs : List Value) : Prop where
  len : cs.length = k
  at_ : ∀ (j : Nat) (v : Value) (d : Dat), cs[j]? = some v → (T.dat a)[j]? = some d → Rd w F v d
theorem WdEl.keep {w w' : World} {F F' : Nat → Prop} {T : WD α k} {a : α} {cs : List Value} (h : WdEl w F T a cs) (hF : ∀ b, b < w.heap.size → F b → F' b ∧ w'.heap[b]? = w.heap[b]?) : WdEl w' F' T a cs :=
  ⟨h.len, fun j v d hv hd => (h.at_ j v d hv hd).keep hF⟩
theorem WdEl.below {w w' : World} {F : Nat → Prop} {T : WD α k} {a : α} {cs : List Value} (h : WdEl w F T a cs) (hB : Below w.heap.size w w') : WdEl w' F T a cs :=
  h.keep (fun b hb hf => ⟨hf, hB.block b hb⟩)
theorem wdC_cons {w : World} {F : Nat → Prop} {g : Nat} (d : Dat) (ds : List Dat) (off : Nat) : RdC w F g off (d :: ds) ↔ (∃ u, w.cell? ⟨g, off, none⟩ = some u ∧ Rd w F u d) ∧ RdC w F g (off + 1) ds := by
  rw [RdC]
theorem wdC_app {w : World} {F : Nat → Prop} {g : Nat} : ∀ (x y : List Dat) (off : Nat), RdC w F g off (x ++ y) ↔ RdC w F g off x ∧ RdC w F g (off + x.length) y
  | [], y, off => by simp [RdC]
  | d :: x, y, off => by
    rw [List.cons_append, wdC_cons, wdC_cons, wdC_app x y (off + 1), List.length_cons, show off + 1 + x.length = off + (x.length + 1) from by omega, and_assoc]
/-- data in a row's cells, as a list of cells -/
theorem wdC_out {w : World} {F : Nat → Prop} {g : Nat} : ∀ (ds : List Dat) (off : Nat), RdC w F g off ds → ∃ cs : List Value, cs.length = ds.length ∧ w.rangeAt g off cs ∧ ∀ (j : Nat) (v : Value) (d : Dat), cs[j]? = some v → ds[j]? = some d → Rd w F v d
  | [], off, _ => ⟨[], rfl, fun j v hv => by simp at hv, fun j v d hv => by simp at hv⟩
  | d :: ds, off, h => by
    obtain ⟨⟨u, hu, hr⟩, hc⟩ := (wdC_cons d ds off).1 h
    obtain ⟨cs, h1, h2, h3⟩ := wdC_out ds (off + 1) hc
    refine ⟨u :: cs, by simp [h1], fun j v hv => ?_, fun j v x hv hx => ?_⟩
    · cases j with
      | zero => simp at hv; subst hv; exact hu
      | succ j =>
        have := h2 j v (by simpa using hv)
        rwa [show off + 1 + j = off + (j + 1) from by omega] at this
    · cases j with
      | zero => simp at hv hx; subst hv hx; exact hr
      | succ j => exact h3 j v x (by simpa using hv) (by simpa using hx)
theorem wdC_in {w : World} {F : Nat → Prop} {g : Nat} : ∀ (ds : List Dat) (cs : List Value) (off : Nat), cs.length = ds.length → w.rangeAt g off cs → (∀ (j : Nat) (v : Value) (d : Dat), cs[j]? = some v → ds[j]? = some d → Rd w F v d) → RdC w F g off ds
  | [], _, off, _, _, _ => by simp [RdC]
  | d :: ds, [], off, hl, _, _ => by simp at hl
  | d :: ds, u :: cs, off, hl, h2, h3 => by
    refine (wdC_cons d ds off).2 ⟨⟨u, by simpa using h2 0 u rfl, h3 0 u d rfl rfl⟩, wdC_in ds cs (off + 1) (by simpa using hl) (fun j v hv => ?_) (fun j v x hv hx => h3 (j + 1) v x (by simpa using hv) (by simpa using hx))⟩
    rw [show off + 1 + j = off + (j + 1) from by omega]
    exact h2 (j + 1) v (by simpa using hv)
theorem wdC_el {w : World} {F : Nat → Prop} {g : Nat} (T : WD α k) : ∀ (l : List α) (off i : Nat) (a : α), RdC w F g off (l.flatMap T.dat) → l[i]? = some a → RdC w F g (off + i * k) (T.dat a)
  | [], _, i, a, _, h => by simp at h
  | x :: l, off, 0, a, hc, h => by
    simp at h
    subst h
    rw [List.flatMap_cons, wdC_app] at hc
    rw [Nat.zero_mul, Nat.add_zero]
    exact hc.1
  | x :: l, off, i + 1, a, hc, h => by
    rw [List.flatMap_cons, wdC_app, T.len] at hc
    rw [show off + (i + 1) * k = off + k + i * k from by rw [Nat.add_mul]; omega]
    exact wdC_el T l (off + k) i a hc.2 (by simpa using h)
theorem wdC_of {w : World} {F : Nat → Prop} {g : Nat} (T : WD α k) : ∀ (l : List α) (off : Nat), (∀ i a, l[i]? = some a → RdC w F g (off + i * k) (T.dat a)) → RdC w F g off (l.flatMap T.dat)
  | [], _, _ => by simp [RdC]
  | x :: l, off, h => by
    rw [List.flatMap_cons, wdC_app, T.len]
    refine ⟨by simpa using h 0 x rfl, wdC_of T l (off + k) (fun i a hi => ?_)⟩
    rw [show off + k + i * k = off + (i + 1) * k from by rw [Nat.add_mul]; omega]
    exact h (i + 1) a (by simpa using hi)
theorem wds_shape {w : World} {F : Nat → Prop} {T : WD α k} {v : Value} {l : List α} (h : Rd w F v (wds T l)) : ∃ A c, v = .slice A l.length c ∧ l.length ≤ c ∧ c ≤ maxLen := by
  unfold wds Rd at h
  obtain ⟨A, c, hv, h1, h2, _⟩ := h
  exact ⟨A, c, hv, h1, h2⟩
theorem wd_ne {T : WD α k} {l : List α} {i : Nat} {a : α} (h : l[i]? = some a) : l.flatMap T.dat ≠ [] := by
  match l, h with
  | x :: l, _ =>
    rw [List.flatMap_cons]
    intro e
    have h1 := T.len x
    rw [(List.append_eq_nil_iff.1 e).1] at h1
    have h2 := T.pos
    simp at h1
    omega
/-- one element of a list -/
theorem wd_el {w : World} {F : Nat → Prop} {T : WD α k} {l : List α} {A : Option Addr} {n c : Nat} (h : Rd w F (.slice A n c) (wds T l)) {i : Nat} {a : α} (hi : l[i]? = some a) : ∃ g off cs, A = some ⟨g, off, none⟩ ∧ F g ∧ w.rangeAt g (off + i * k) cs ∧ WdEl w F T a cs := by
  unfold wds Rd at h
  obtain ⟨A', c', hv, _, _, _, h4⟩ := h
  obtain ⟨g, off, hA, hg, hc⟩ := h4 (wd_ne hi)
  injection hv with hv
  obtain ⟨cs, h1, h2, h3⟩ := wdC_out _ _ (wdC_el T l off i a hc hi)
  exact ⟨g, off, cs, hv.trans hA, hg, h2, by rw [h1, T.len], h3⟩
/-- what a row of elements holds -/
def WdX (w : World) (F : Nat → Prop) (T : WD α k) : List α → List Value → Prop
  | [], xs => xs = []
  | a :: l, xs => ∃ cs ys, xs = cs ++ ys ∧ WdEl w F T a cs ∧ WdX w F T l ys
theorem WdX.keep {w w' : World} {F F' : Nat → Prop} {T : WD α k} (hF : ∀ b, b < w.heap.size → F b → F' b ∧ w'.heap[b]? = w.heap[b]?) : ∀ {l : List α} {xs : List Value}, WdX w F T l xs → WdX w' F' T l xs
  | [], _, h => h
  | _ :: _, _, ⟨cs, ys, h1, h2, h3⟩ => ⟨cs, ys, h1, h2.keep hF, h3.keep hF⟩
theorem WdX.snoc {w : World} {F : Nat → Prop} {T : WD α k} {a : α} {cs : List Value} (ha : WdEl w F T a cs) : ∀ {l : List α} {xs : List Value}, WdX w F T l xs → WdX w F T (l ++ [a]) (xs ++ cs)
  | [], _, h => by
    have h : _ = [] := h
    subst h
    exact ⟨cs, [], by simp, ha, rfl⟩
  | x :: l, _, ⟨ds, ys, h1, h2, h3⟩ => ⟨ds, ys ++ cs, by rw [h1, List.append_assoc], h2, WdX.snoc ha h3⟩
theorem WdX.len {w : World} {F : Nat → Prop} {T : WD α k} : ∀ {l : List α} {xs : List Value}, WdX w F T l xs → xs.length = l.length * k
  | [], _, h => by have h : _ = [] := h; subst h; simp
  | _ :: _, _, ⟨cs, ys, h1, h2, h3⟩ => by rw [h1, List.length_append, h2.len, h3.len, List.length_cons, Nat.add_mul]; omega
theorem wds_nil {w : World} {F : Nat → Prop} {T : WD α k} : Rd w F (.slice none 0 0) (wds T []) := by
  unfold wds Rd
  exact ⟨none, 0, rfl, Nat.le_refl _, by simp [maxLen], fun _ => rfl, fun h => absurd rfl h⟩
end Go.V
