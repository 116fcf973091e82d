/- AV: several texts in one (LW AV). -/
import Derived.Test.YtnhhbbjkeekneaaDoorVA
import Derived.Test.YtnhhbbjkeekneaaDoorQA
/- LW: lists of structs in memory, whatever the struct: k cells each, told by their data. No project text. -/
namespace Go.V
open Go.RowKit
/-- how an element is told: k data, one a cell -/
structure WD (α : Type) (k : Nat) where
  dat : α → List Dat
  len : ∀ a, (dat a).length = k
  pos : 0 < k
variable {α : Type} {k : Nat}
/-- cells that are an element -/
structure WdEl (w : World) (F : Nat → Prop) (T : WD α k) (a : α) (cs : List Value) : Prop where
  len : cs.length = k
  at_ : ∀ (j : Nat) (v : Value) (d : Dat), cs[j]? = some v → (T.dat a)[j]? = some d → Rd w F v d
theorem WdEl.keep {w w' : World} {F F' : Nat → Prop} {T : WD α k} {a : α} {cs : List Value} (h : WdEl w F T a cs) (hF : ∀ b, b < w.heap.size → F b → F' b ∧ w'.heap[b]? = w.heap[b]?) : WdEl w' F' T a cs :=
  ⟨h.len, fun j v d hv hd => (h.at_ j v d hv hd).keep hF⟩
theorem WdEl.below {w w' : World} {F : Nat → Prop} {T : WD α k} {a : α} {cs : List Value} (h : WdEl w F T a cs) (hB : Below w.heap.size w w') : WdEl w' F T a cs :=
  h.keep (fun b hb hf => ⟨hf, hB.block b hb⟩)
/-- what a row of elements holds -/
def WdX (w : World) (F : Nat → Prop) (T : WD α k) : List α → List Value → Prop
  | [], xs => xs = []
  | a :: l, xs => ∃ cs ys, xs = cs ++ ys ∧ WdEl w F T a cs ∧ WdX w F T l ys
theorem WdX.keep {w w' : World} {F F' : Nat → Prop} {T : WD α k} (hF : ∀ b, b < w.heap.size → F b → F' b ∧ w'.heap[b]? = w.heap[b]?) : ∀ {l : List α} {xs : List Value}, WdX w F T l xs → WdX w' F' T l xs
  | [], _, h => h
  | _ :: _, _, ⟨cs, ys, h1, h2, h3⟩ => ⟨cs, ys, h1, h2.keep hF, h3.keep hF⟩
theorem WdX.snoc {w : World} {F : Nat → Prop} {T : WD α k} {a : α} {cs : List Value} (ha : WdEl w F T a cs) : ∀ {l : List α} {xs : List Value}, WdX w F T l xs → WdX w F T (l ++ [a]) (xs ++ cs)
  | [], _, h => by
    have h : _ = [] := h
    subst h
    exact ⟨cs, [], by simp, ha, rfl⟩
  | x :: l, _, ⟨ds, ys, h1, h2, h3⟩ => ⟨ds, ys ++ cs, by rw [h1, List.append_assoc], h2, WdX.snoc ha h3⟩
theorem WdX.len {w : World} {F : Nat → Prop} {T : WD α k} : ∀ {l : List α} {xs : List Value}, WdX w F T l xs → xs.length = l.length * k
  | [], _, h => by have h : _ = [] := h; subst h; simp
  | _ :: _, _, ⟨cs, ys, h1, h2, h3⟩ => by rw [h1, List.length_append, h2.len, h3.len, List.length_cons, Nat.add_mul]; omega
end Go.V
/- AV: lists of one struct, guarded struct literals, lists of replies. No project text. -/
namespace Go.V
open Go.RowKit
end Go.V
namespace Go.Proofs.YtnhhbbjkeekneaaDoor
open Go.RowKit Go.V
end Go.Proofs.YtnhhbbjkeekneaaDoor
