/- OT: rows of texts of one's own, beside what else may change. No project text. -/
import Derived.Test.YtnhhbbjkeekneaaDoorVA
namespace Go.V
open Go.RowKit
theorem own_keepO {w w' : World} {base : Nat} {e : TypeId} {s : Nat} {v : Value} {n : Nat} {xs : List Value} (h : w.ownsRow base e s v n xs) (hk : ∀ k, k < w.heap.size → v.ownBlock = some k → w'.heap[k]? = w.heap[k]?) : w'.ownsRow base e s v n xs := by
  obtain ⟨h1, h2⟩ := h
  refine ⟨h1, ?_⟩
  rcases h2 with h | ⟨g, cap, cur, rfl, hg, hh, h3⟩
  · exact .inl h
  · exact .inr ⟨g, cap, cur, rfl, hg, (hk g (lt_of_block hh) rfl).trans hh, h3⟩
/-- a row of texts of one's own, that lies beside what else may change (Z) -/
structure OT (w : World) (e : TypeId) (base : Nat) (Z : Nat → Prop) (av : Value) (l : List (List UInt8)) (us : List Value) : Prop where
  own : w.ownsRow base e 1 av l.length us
  x : TxX w (fun b => base ≤ b ∧ ¬ Z b ∧ av.ownBlock ≠ some b) l us
  z : ∀ b, av.ownBlock = some b → ¬ Z b
theorem OT.nil (w : World) (e : TypeId) (base : Nat) (Z : Nat → Prop) : OT w e base Z (.slice none 0 0) [] [] := ⟨World.ownsRow_nil _ _ _ _, TxX.nil _ _, fun b e => by cases e⟩
theorem OT.ch {w w' : World} {e : TypeId} {base : Nat} {Z G : Nat → Prop} {av : Value} {l : List (List UInt8)} {us : List Value} (h : OT w e base Z av l us) (hC : Ch G w w') (hG : ∀ b, G b → Z b ∨ b < base) : OT w' e base Z av l us :=
  ⟨own_keepO h.own (fun k hk e => hC.block k hk (fun hg => (hG k hg).elim (h.z k e) (fun h2 => by have := (h.own.lt k e).1; omega))),
   h.x.keep (fun b hb hF => ⟨hF, hC.block b hb (fun hg => (hG b hg).elim hF.2.1 (fun h2 => by have := hF.1; omega))⟩), h.z⟩
theorem OT.pushG {w w' : World} {e : TypeId} {base : Nat} {Z : Nat → Prop} {av v' u : Value} {l : List (List UInt8)} {us : List Value} {t : List UInt8} (h : OT w e base Z av l us) (hu : Rd w (fun b => base ≤ b ∧ ¬ Z b ∧ av.ownBlock ≠ some b) u (bys t)) (hZ : ∀ b, Z b → b < w.heap.size)
    (ho : w'.ownsRow base e 1 v' (l.length + 1) (us ++ [u])) (hG : w.grownBy w' av.ownBlock) (hd : v'.ownBlock = av.ownBlock ∨ ∃ g, v'.ownBlock = some g ∧ w.heap.size ≤ g) : OT w' e base Z v' (l ++ [t]) (us ++ [u]) := by
  have hk : ∀ b, b < w.heap.size → base ≤ b ∧ ¬ Z b ∧ av.ownBlock ≠ some b → (base ≤ b ∧ ¬ Z b ∧ v'.ownBlock ≠ some b) ∧ w'.heap[b]? = w.heap[b]? := fun b hb h1 =>
    ⟨⟨h1.1, h1.2.1, fun e2 => hd.elim (fun hd => h1.2.2 (by rw [← hd]; exact e2)) (fun ⟨g, hd, hg⟩ => by rw [hd] at e2; injection e2 with e2; omega)⟩, hG.block b hb (fun e2 => h1.2.2 e2.symm)⟩
  refine ⟨by rw [List.length_append]; exact ho, (h.x.keep hk).snoc (hu.keep hk), fun b e2 hz => ?_⟩
  rcases hd with hd | ⟨g, hd, hg⟩
  · exact h.z b (by rw [← hd]; exact e2) hz
  · rw [hd] at e2; injection e2 with e2; have := hZ b hz; omega
theorem OT.rd {w : World} {e : TypeId} {base : Nat} {Z : Nat → Prop} {av : Value} {l : List (List UInt8)} {us : List Value} (h : OT w e base Z av l us) : Rd w (fun b => base ≤ b) av (tx l) := tx_own h.own h.x (fun _ h => h.1)
end Go.V
