/- LW: lists of structs in memory, whatever the struct: k cells each, told by their data. No project text. -/
import Derived.Test.YtmjpkdehkdpdpaaDoorVA
namespace Go.V
open Go.RowKit
/-- how an element is told: k data, one a cell -/
structure WD (α : Type) (k : Nat) where
  dat : α → List Dat
  len : ∀ a, (dat a).length = k
  pos : 0 < k
variable {α : Type} {k : Nat}
def wds (T : WD α k) (l : List α) : Dat := .sl l.length (l.flatMap T.dat)
/-- cells that are an element -/
structure WdEl (w : World) (F : Nat → Prop) (T : WD α k) (a : α) (cs : List Value) : Prop where
  len : cs.length = k
  at_ : ∀ (j : Nat) (v : Value) (d : Dat), cs[j]? = some v → (T.dat a)[j]? = some d → Rd w F v d
theorem WdEl.keep {w w' : World} {F F' : Nat → Prop} {T : WD α k} {a : α} {cs : List Value} (h : WdEl w F T a cs) (hF : ∀ b, b < w.heap.size → F b → F' b ∧ w'.heap[b]? = w.heap[b]?) : WdEl w' F' T a cs :=
  ⟨h.len, fun j v d hv hd => (h.at_ j v d hv hd).keep hF⟩
theorem WdEl.below {w w' : World} {F : Nat → Prop} {T : WD α k} {a : α} {cs : List Value} (h : WdEl w F T a cs) (hB : Below w.heap.size w w') : WdEl w' F T a cs :=
  h.keep (fun b hb hf => ⟨hf, hB.block b hb⟩)
theorem wdC_cons {w : World} {F : Nat → Prop} {g : Nat} (d : Dat) (ds : List Dat) (off : Nat) : RdC w F g off (d :: ds) ↔ (∃ u, w.cell? ⟨g, off, none⟩ = some u ∧ Rd w F u d) ∧ RdC w F g (off + 1) ds := by
  rw [RdC]
theorem wdC_app {w : World} {F : Nat → Prop} {g : Nat} : ∀ (x y : List Dat) (off : Nat), RdC w F g off (x ++ y) ↔ RdC w F g off x ∧ RdC w F g (off + x.length) y
  | [], y, off => by simp [RdC]
  | d :: x, y, off => by
    rw [List.cons_append, wdC_cons, wdC_cons, wdC_app x y (off + 1), List.length_cons, show off + 1 + x.length = off + (x.length + 1) from by omega, and_assoc]
/-- data in a row's cells, as a list of cells -/
theorem wdC_out {w : World} {F : Nat → Prop} {g : Nat} : ∀ (ds : List Dat) (off : Nat), RdC w F g off ds → ∃ cs : List Value, cs.length = ds.length ∧ w.rangeAt g off cs ∧ ∀ (j : Nat) (v : Value) (d : Dat), cs[j]? = some v → ds[j]? = some d → Rd w F v d
  | [], off, _ => ⟨[], rfl, fun j v hv => by simp at hv, fun j v d hv => by simp at hv⟩
  | d :: ds, off, h => by
    obtain ⟨⟨u, hu, hr⟩, hc⟩ := (wdC_cons d ds off).1 h
    obtain ⟨cs, h1, h2, h3⟩ := wdC_out ds (off + 1) hc
    refine ⟨u :: cs, by simp [h1], fun j v hv => ?_, fun j v x hv hx => ?_⟩
    · cases j with
      | zero => simp at hv; subst hv; exact hu
      | succ j =>
        have := h2 j v (by simpa using hv)
        rwa [show off + 1 + j = off + (j + 1) from by omega] at this
    · cases j with
      | zero => simp at hv hx; subst hv hx; exact hr
      | succ j => exact h3 j v x (by simpa using hv) (by simpa using hx)
theorem wdC_in {w : World} {F : Nat → Prop} {g : Nat} : ∀ (ds : List Dat) (cs : List Value) (off : Nat), cs.length = ds.length → w.rangeAt g off cs → (∀ (j : Nat) (v : Value) (d : Dat), cs[j]? = some v → ds[j]? = some d → Rd w F v d) → RdC w F g off ds
  | [], _, off, _, _, _ => by simp [RdC]
  | d :: ds, [], off, hl, _, _ => by simp at hl
  | d :: ds, u :: cs, off, hl, h2, h3 => by
    refine (wdC_cons d ds off).2 ⟨⟨u, by simpa using h2 0 u rfl, h3 0 u d rfl rfl⟩, wdC_in ds cs (off + 1) (by simpa using hl) (fun j v hv => ?_) (fun j v x hv hx => h3 (j + 1) v x (by simpa using hv) (by simpa using hx))⟩
    rw [show off + 1 + j = off + (j + 1) from by omega]
    exact h2 (j + 1) v (by simpa using hv)
theorem wdC_el {w : World} {F : Nat → Prop} {g : Nat} (T : WD α k) : ∀ (l : List α) (off i : Nat) (a : α), RdC w F g off (l.flatMap T.dat) → l[i]? = some a → RdC w F g (off + i * k) (T.dat a)
  | [], _, i, a, _, h => by simp at h
  | x :: l, off, 0, a, hc, h => by
    simp at h
    subst h
    rw [List.flatMap_cons, wdC_app] at hc
    rw [Nat.zero_mul, Nat.add_zero]
    exact hc.1
  | x :: l, off, i + 1, a, hc, h => by
    rw [List.flatMap_cons, wdC_app, T.len] at hc
    rw [show off + (i + 1) * k = off + k + i * k from by rw [Nat.add_mul]; omega]
    exact wdC_el T l (off + k) i a hc.2 (by simpa using h)
theorem wdC_of {w : World} {F : Nat → Prop} {g : Nat} (T : WD α k) : ∀ (l : List α) (off : Nat), (∀ i a, l[i]? = some a → RdC w F g (off + i * k) (T.dat a)) → RdC w F g off (l.flatMap T.dat)
  | [], _, _ => by simp [RdC]
  | x :: l, off, h => by
    rw [List.flatMap_cons, wdC_app, T.len]
    refine ⟨by simpa using h 0 x rfl, wdC_of T l (off + k) (fun i a hi => ?_)⟩
    rw [show off + k + i * k = off + (i + 1) * k from by rw [Nat.add_mul]; omega]
    exact h (i + 1) a (by simpa using hi)
theorem wds_shape {w : World} {F : Nat → Prop} {T : WD α k} {v : Value} {l : List α} (h : Rd w F v (wds T l)) : ∃ A c, v = .slice A l.length c ∧ l.length ≤ c ∧ c ≤ maxLen := by
  unfold wds Rd at h
  obtain ⟨A, c, hv, h1, h2, _⟩ := h
  exact ⟨A, c, hv, h1, h2⟩
theorem wd_ne {T : WD α k} {l : List α} {i : Nat} {a : α} (h : l[i]? = some a) : l.flatMap T.dat ≠ [] := by
  match l, h with
  | x :: l, _ =>
    rw [List.flatMap_cons]
    intro e
    have h1 := T.len x
    rw [(List.append_eq_nil_iff.1 e).1] at h1
    have h2 := T.pos
    simp at h1
    omega
/-- one element of a list -/
theorem wd_el {w : World} {F : Nat → Prop} {T : WD α k} {l : List α} {A : Option Addr} {n c : Nat} (h : Rd w F (.slice A n c) (wds T l)) {i : Nat} {a : α} (hi : l[i]? = some a) : ∃ g off cs, A = some ⟨g, off, none⟩ ∧ F g ∧ w.rangeAt g (off + i * k) cs ∧ WdEl w F T a cs := by
  unfold wds Rd at h
  obtain ⟨A', c', hv, _, _, _, h4⟩ := h
  obtain ⟨g, off, hA, hg, hc⟩ := h4 (wd_ne hi)
  injection hv with hv
  obtain ⟨cs, h1, h2, h3⟩ := wdC_out _ _ (wdC_el T l off i a hc hi)
  exact ⟨g, off, cs, hv.trans hA, hg, h2, by rw [h1, T.len], h3⟩
/-- what a row of elements holds -/
def WdX (w : World) (F : Nat → Prop) (T : WD α k) : List α → List Value → Prop
  | [], xs => xs = []
  | a :: l, xs => ∃ cs ys, xs = cs ++ ys ∧ WdEl w F T a cs ∧ WdX w F T l ys
theorem WdX.keep {w w' : World} {F F' : Nat → Prop} {T : WD α k} (hF : ∀ b, b < w.heap.size → F b → F' b ∧ w'.heap[b]? = w.heap[b]?) : ∀ {l : List α} {xs : List Value}, WdX w F T l xs → WdX w' F' T l xs
  | [], _, h => h
  | _ :: _, _, ⟨cs, ys, h1, h2, h3⟩ => ⟨cs, ys, h1, h2.keep hF, h3.keep hF⟩
theorem WdX.snoc {w : World} {F : Nat → Prop} {T : WD α k} {a : α} {cs : List Value} (ha : WdEl w F T a cs) : ∀ {l : List α} {xs : List Value}, WdX w F T l xs → WdX w F T (l ++ [a]) (xs ++ cs)
  | [], _, h => by
    have h : _ = [] := h
    subst h
    exact ⟨cs, [], by simp, ha, rfl⟩
  | x :: l, _, ⟨ds, ys, h1, h2, h3⟩ => ⟨ds, ys ++ cs, by rw [h1, List.append_assoc], h2, WdX.snoc ha h3⟩
theorem WdX.el {w : World} {F : Nat → Prop} {T : WD α k} {g : Nat} : ∀ {l : List α} {xs : List Value} (off : Nat), WdX w F T l xs → w.rangeAt g off xs → ∀ i a, l[i]? = some a → RdC w F g (off + i * k) (T.dat a)
  | [], _, _, _, _, i, a, hi => by simp at hi
  | x :: l, xs, off, ⟨cs, ys, h1, h2, _⟩, hg, 0, a, hi => by
    simp at hi
    subst hi h1
    rw [Nat.zero_mul, Nat.add_zero]
    refine wdC_in _ cs off (by rw [h2.len, T.len]) (fun j v hv => hg j v ?_) h2.at_
    rw [List.getElem?_append_left (List.getElem?_eq_some_iff.1 hv).1]
    exact hv
  | x :: l, xs, off, ⟨cs, ys, h1, h2, h3⟩, hg, i + 1, a, hi => by
    subst h1
    have hl := h2.len
    have hg' : w.rangeAt g (off + k) ys := fun j v hv => by
      have := hg (k + j) v (by rw [List.getElem?_append_right (by omega), hl, Nat.add_sub_cancel_left]; exact hv)
      rwa [← Nat.add_assoc] at this
    have := WdX.el (off + k) h3 hg' i a (by simpa using hi)
    rwa [show off + k + i * k = off + (i + 1) * k from by rw [Nat.add_mul]; omega] at this
/-- an own row of elements, read -/
theorem wds_own {w : World} {base : Nat} {e : TypeId} {F : Nat → Prop} {T : WD α k} {v : Value} {l : List α} {xs : List Value} (ho : w.ownsRow base e k v l.length xs) (hx : WdX w F T l xs) {F' : Nat → Prop} (hF : ∀ b, F b → F' b) (hb : ∀ b, v.ownBlock = some b → F' b) : Rd w F' v (wds T l) := by
  unfold wds Rd
  have hx := hx.keep (F' := F') (fun b _ h => ⟨hF b h, rfl⟩)
  rcases ho.2 with ⟨rfl, h0⟩ | ⟨g, cap, cur, rfl, hg, hh, h1, h2, h3, h4⟩
  · have : l = [] := List.eq_nil_of_length_eq_zero h0
    subst this
    exact ⟨none, 0, rfl, Nat.le_refl _, by simp [maxLen], fun _ => rfl, fun h => absurd rfl h⟩
  · refine ⟨_, cap, rfl, h1, h2, fun h => by rw [List.eq_nil_of_length_eq_zero h]; rfl, fun _ => ⟨g, 0, rfl, hb g rfl, wdC_of T l 0 (fun i a hi => ?_)⟩⟩
    have hr : w.rangeAt g 0 xs := fun j u hu => by
      have := ho.cells (g := g) rfl j u hu
      rwa [add_mk] at this
    exact hx.el 0 hr i a hi
theorem WdX.len {w : World} {F : Nat → Prop} {T : WD α k} : ∀ {l : List α} {xs : List Value}, WdX w F T l xs → xs.length = l.length * k
  | [], _, h => by have h : _ = [] := h; subst h; simp
  | _ :: _, _, ⟨cs, ys, h1, h2, h3⟩ => by rw [h1, List.length_append, h2.len, h3.len, List.length_cons, Nat.add_mul]; omega
theorem WdX.get {w : World} {F : Nat → Prop} {T : WD α k} : ∀ {l : List α} {xs : List Value} (_ : WdX w F T l xs) (i : Nat) (a : α), l[i]? = some a → ∃ cs, WdEl w F T a cs ∧ ∀ (j : Nat) (v : Value), cs[j]? = some v → xs[i * k + j]? = some v
  | [], _, _, i, a, hi => by simp at hi
  | x :: l, xs, ⟨cs, ys, h1, h2, _⟩, 0, a, hi => by
    simp at hi
    subst hi h1
    refine ⟨cs, h2, fun j v hv => ?_⟩
    rw [Nat.zero_mul, Nat.zero_add, List.getElem?_append_left (List.getElem?_eq_some_iff.1 hv).1]
    exact hv
  | x :: l, xs, ⟨cs, ys, h1, h2, h3⟩, i + 1, a, hi => by
    subst h1
    obtain ⟨ds, h4, h5⟩ := WdX.get h3 i a (by simpa using hi)
    refine ⟨ds, h4, fun j v hv => ?_⟩
    have hl := h2.len
    rw [show (i + 1) * k + j = k + (i * k + j) from by rw [Nat.add_mul]; omega, List.getElem?_append_right (by omega), hl, Nat.add_sub_cancel_left]
    exact h5 j v hv
/-- one element of an own row -/
theorem own_el {w : World} {base : Nat} {e : TypeId} {F : Nat → Prop} {T : WD α k} {v : Value} {n : Nat} {l : List α} {xs : List Value} (ho : w.ownsRow base e k v n xs) (hx : WdX w F T l xs) {i : Nat} {a : α} (hi : l[i]? = some a) : ∃ g c cs, v = .slice (some ⟨g, 0, none⟩) n c ∧ w.rangeAt g (0 + i * k) cs ∧ WdEl w F T a cs := by
  obtain ⟨cs, h1, h2⟩ := hx.get i a hi
  have hp := T.pos
  rcases ho.2 with ⟨_, h0⟩ | ⟨g, cap, cur, rfl, hg, hh, _⟩
  · have h3 := ho.1
    subst h0
    have h4 : xs = [] := List.eq_nil_of_length_eq_zero (by omega)
    have h5 := h1.len
    match cs, h5 with
    | [], h5 => simp at h5; omega
    | u :: cs, _ =>
      have := h2 0 u rfl
      rw [h4] at this
      simp at this
  · refine ⟨g, cap, cs, rfl, fun j u hu => ?_, h1⟩
    have := ho.cells (g := g) rfl (i * k + j) u (h2 j u hu)
    rw [add_mk] at this
    rwa [Nat.zero_add] at this ⊢
theorem wds_nil {w : World} {F : Nat → Prop} {T : WD α k} : Rd w F (.slice none 0 0) (wds T []) := by
  unfold wds Rd
  exact ⟨none, 0, rfl, Nat.le_refl _, by simp [maxLen], fun _ => rfl, fun h => absurd rfl h⟩
/-- pieces of a list of wide elements -/
theorem sizeW_of {P : Program} {t e : TypeId} {z : List Value} {s by_ : Nat} (ht : SlW P t e z s by_) (W : World) : (sizeOf e).run P W = .ok s W := by
  obtain ⟨i, hi, _, hs, _⟩ := ht.inf
  simp [sizeOf, typeInfo, hi, hs]
theorem elemW_of {P : Program} {t e : TypeId} {z : List Value} {s by_ : Nat} (ht : SlW P t e z s by_) : P.elem t = e := by simp [Program.elem, ht.sl]
theorem run_cutW {P : Program} {t e : TypeId} {z : List Value} {s by_ : Nat} (ht : SlW P t e z s by_) (A : Option Addr) (n c : Nat) (l h : Int) (h0 : 0 ≤ l) (h1 : l ≤ h) (h2 : h ≤ c) (W : World) :
    (Instr.slice t (.slice A n c) (some (.int .i64 l)) (some (.int .i64 h)) none).run P W = .ok (sliced A l.toNat h.toNat c s) W := by
  have hu : P.underlying t = some (.slice (P.elem t)) := by rw [elemW_of ht]; exact ht.sl
  rw [run_slice_lh (ht := hu) (h0 := h0) (h1 := h1) (h2 := h2), elemW_of ht, sizeW_of ht]
  rfl
theorem run_cutW_l {P : Program} {t e : TypeId} {z : List Value} {s by_ : Nat} (ht : SlW P t e z s by_) (A : Option Addr) (n c : Nat) (l : Int) (h0 : 0 ≤ l) (h1 : l ≤ n) (W : World) :
    (Instr.slice t (.slice A n c) (some (.int .i64 l)) none none).run P W = .ok (sliced A l.toNat n c s) W := by
  have hu : P.underlying t = some (.slice (P.elem t)) := by rw [elemW_of ht]; exact ht.sl
  rw [run_slice_l (ht := hu) (h0 := h0) (h1 := h1), elemW_of ht, sizeW_of ht]
  rfl
theorem run_cutW_h {P : Program} {t e : TypeId} {z : List Value} {s by_ : Nat} (ht : SlW P t e z s by_) (A : Option Addr) (n c : Nat) (h : Int) (h0 : 0 ≤ h) (h1 : h ≤ c) (W : World) :
    (Instr.slice t (.slice A n c) none (some (.int .i64 h)) none).run P W = .ok (sliced A 0 h.toNat c s) W := by
  have hu : P.underlying t = some (.slice (P.elem t)) := by rw [elemW_of ht]; exact ht.sl
  rw [run_slice_h (ht := hu) (h0 := h0) (h2 := h1), elemW_of ht, sizeW_of ht]
  rfl
theorem Rd.wdpiece {w : World} {F : Nat → Prop} {T : WD α k} {A : Option Addr} {n c : Nat} {x : List α} (h : Rd w F (.slice A n c) (wds T x)) {l m : Nat} (h1 : l ≤ m) (h2 : m ≤ x.length) :
    Rd w F (sliced A l m c k) (wds T ((x.drop l).take (m - l))) := by
  have hx : ((x.drop l).take (m - l)).length = m - l := by rw [List.length_take, List.length_drop]; omega
  unfold wds Rd at h ⊢
  obtain ⟨A', c', hv, hc1, hc2, _, h4⟩ := h
  injection hv with e1 e2 e3
  subst e1; subst e3
  rw [hx]
  refine ⟨_, c - l, rfl, by omega, by omega, fun h0 => by rw [List.eq_nil_of_length_eq_zero (hx.trans h0)]; rfl, fun hne => ?_⟩
  have hlt : l < m := by
    rcases Nat.lt_or_ge l m with h | h
    · exact h
    · exact absurd (by rw [List.eq_nil_of_length_eq_zero (show ((x.drop l).take (m - l)).length = 0 by omega)]; rfl) hne
  obtain ⟨a, ha⟩ : ∃ a, x[l]? = some a := ⟨_, List.getElem?_eq_getElem (by omega)⟩
  obtain ⟨g, off, hA, hg, hc⟩ := h4 (wd_ne ha)
  subst hA
  refine ⟨g, off + l * k, ?_, hg, wdC_of T _ _ (fun j b hj => ?_)⟩
  · rw [if_neg (by omega)]
    simp [add_mk]
  · have hj' : x[l + j]? = some b := by
      rw [List.getElem?_take] at hj
      split at hj
      · rw [List.getElem?_drop] at hj; exact hj
      · cases hj
    have := wdC_el T x off (l + j) b hc hj'
    rw [Nat.add_mul, ← Nat.add_assoc] at this
    exact this
/-- 'x[l:]' -/
theorem Rd.wdcut_l {P : Program} {t e : TypeId} {z : List Value} {by_ : Nat} (ht : SlW P t e z k by_) {w : World} {F : Nat → Prop} {T : WD α k} {A : Option Addr} {n c : Nat} {x : List α} (h : Rd w F (.slice A n c) (wds T x)) (l : Int) (h0 : 0 ≤ l) (h2 : l ≤ x.length) :
    ∃ A' c', (∀ W, (Instr.slice t (.slice A n c) (some (.int .i64 l)) none none).run P W = .ok (.slice A' (x.drop l.toNat).length c') W) ∧ Rd w F (.slice A' (x.drop l.toNat).length c') (wds T (x.drop l.toNat)) := by
  have hn : n = x.length := by
    obtain ⟨A', c', e, _⟩ := wds_shape h
    injection e
  subst hn
  have hp := h.wdpiece (l := l.toNat) (m := x.length) (by omega) (Nat.le_refl _)
  rw [List.take_of_length_le (by rw [List.length_drop]; omega)] at hp
  obtain ⟨A', c', e, _⟩ := wds_shape hp
  refine ⟨A', c', fun W => ?_, by rw [← e]; exact hp⟩
  rw [run_cutW_l ht A x.length c l h0 (by omega) W, e]
end Go.V
