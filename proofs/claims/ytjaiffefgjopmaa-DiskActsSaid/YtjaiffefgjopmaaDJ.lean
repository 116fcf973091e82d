/- DJ: layer 10: the landed disk and the document's, side by side. -/
import Derived.Test.YtjaiffefgjopmaaDW
import Derived.Test.YtjaiffefgjopmaaDI
namespace Go.Proofs.Ytjaiffefgjopmaa
open Go.RowKit Go.V
theorem RX.move {w w' : World} {p : Nat} {r : Option Nat} {M M' : Nat → Prop} {d : Dk} (h : RX w p r M d) (hC : Ch M w w') (hp : ¬ M p) (hr : ∀ b, r = some b → ¬ M b) (hM : ∀ b, M' b → M b ∨ w.heap.size ≤ b) : RX w' p r M' d := by
  obtain ⟨vs, vp, xs, hb, hvs, ho, hx, hrr, hrp⟩ := h
  have hk : ∀ b, b < w.heap.size → dkF p r M b → dkF p r M' b ∧ w'.heap[b]? = w.heap[b]? := fun b hb hF => ⟨⟨hF.1, hF.2.1, fun hm => (hM b hm).elim hF.2.2 (fun h => by omega)⟩, hC.block b hb hF.2.2⟩
  exact ⟨vs, vp, xs, hb.keep (hC.block p hb.lt hp), hvs.keep hk, own_keep10 ho (fun b hb e => hC.block b hb (hr b (by rw [← hrr]; exact e))), hx.keep hk, hrr, hrp⟩
/-- the landed disk says D, the document's E; w0 the world at the start -/
structure JH (w0 w : World) (v : Value) (p : Nat) (r : Option Nat) (M F : Nat → Prop) (D E : Dk) : Prop where
  ix : IX w v M F D
  rx : RX w p r M E
  bel : Below w0.heap.size w0 w
  mB : ∀ b, M b → w0.heap.size ≤ b
  pB : w0.heap.size ≤ p
  rB : ∀ b, r = some b → w0.heap.size ≤ b
  pN : ¬ M p ∧ ¬ F p
  rN : ∀ b, r = some b → ¬ M b ∧ ¬ F b
theorem JH.below {w0 w w' : World} {v : Value} {p : Nat} {r : Option Nat} {M F : Nat → Prop} {D E : Dk} (h : JH w0 w v p r M F D E) (hB : Below w.heap.size w w') : JH w0 w' v p r M F D E :=
  ⟨h.ix.keep (fun b hb _ => hB.block b hb) hB.size, h.rx.below hB, h.bel.trans (hB.mono h.bel.size), h.mB, h.pB, h.rB, h.pN, h.rN⟩
theorem JH.did1 {w0 w w' : World} {v v' : Value} {p : Nat} {r : Option Nat} {M F M' F' : Nat → Prop} {D D' E : Dk} (h : JH w0 w v p r M F D E) (h1 : IX w' v' M' F' D') (h2 : Ch M w w') (h3 : ∀ b, M' b → M b ∨ w.heap.size ≤ b) (h4 : ∀ b, F' b → F b ∨ M b ∨ w.heap.size ≤ b) : JH w0 w' v' p r M' F' D' E := by
  have hs := h.bel.size
  have hpl := h.rx.lt
  have hrl := h.rx.row
  refine ⟨h1, h.rx.move h2 h.pN.1 (fun b e => (h.rN b e).1) h3, below_chM h.bel h2 h.mB (Nat.le_refl _), fun b hb => (h3 b hb).elim (h.mB b) (fun h => by omega), h.pB, h.rB, ⟨fun hm => ?_, fun hf => ?_⟩, fun b e => ⟨fun hm => ?_, fun hf => ?_⟩⟩
  · exact (h3 p hm).elim h.pN.1 (fun h => by omega)
  · exact (h4 p hf).elim h.pN.2 (fun h5 => h5.elim h.pN.1 (fun h => by omega))
  · have := hrl b e
    exact (h3 b hm).elim (h.rN b e).1 (fun h => by omega)
  · have := hrl b e
    exact (h4 b hf).elim (h.rN b e).2 (fun h5 => h5.elim (h.rN b e).1 (fun h => by omega))
theorem JH.did {w0 w w' : World} {v v' : Value} {p : Nat} {r : Option Nat} {M F : Nat → Prop} {D D' E : Dk} (h : JH w0 w v p r M F D E) (hp : IXp w M F v' D' w') : ∃ M' F', JH w0 w' v' p r M' F' D' E := by
  obtain ⟨M', F', h1, h2, h3, h4⟩ := hp
  exact ⟨M', F', h.did1 h1 h2 h3 h4⟩
theorem JH.start {w0 w1 w w' : World} {v : Value} {M F : Nat → Prop} {D : Dk} (hB1 : Below w0.heap.size w0 w1) (hB : Below w1.heap.size w1 w) (hX : IX w v M F D) (hM : ∀ b, M b ∨ F b → w1.heap.size ≤ b) (hR : RX w' w.heap.size none M D) (hB' : Below w.heap.size w w') : JH w0 w' v w.heap.size none M F D D := by
  have hbd := hX.bd
  have h1 := hB1.size
  have h2 := hB.size
  exact ⟨hX.keep (fun b hb _ => hB'.block b hb) hB'.size, hR, (hB1.trans (hB.mono h1)).trans (hB'.mono (by omega)), (fun b hb => by have := hM b (.inl hb); omega), (by omega), (fun b e => by cases e), ⟨fun h => (by have := hbd _ (.inl h); omega), fun h => (by have := hbd _ (.inr h); omega)⟩, (fun b e => by cases e)⟩
theorem JH.doc {w0 w w' : World} {v : Value} {p : Nat} {r r' : Option Nat} {M F : Nat → Prop} {D E E' : Dk} (h : JH w0 w v p r M F D E) (hX : RX w' p r' M E') (hC : Ch (dkG p r) w w') (hr : ∀ b, r' = some b → r = some b ∨ w.heap.size ≤ b) : JH w0 w' v p r' M F D E' := by
  have hs := h.bel.size
  have hbd := h.ix.bd
  refine ⟨h.ix.keep (fun b hb hm => hC.block b hb ?_) hC.size, hX, below_chM h.bel hC (fun b hb => ?_) (Nat.le_refl _), h.mB, h.pB, fun b e => (hr b e).elim (h.rB b) (fun h => by omega), h.pN, fun b e => (hr b e).elim (h.rN b) (fun h1 => ⟨fun hm => by have := hbd b (.inl hm); omega, fun hf => by have := hbd b (.inr hf); omega⟩)⟩
  · rintro (e | e)
    · subst e; exact hm.elim h.pN.1 h.pN.2
    · exact hm.elim (h.rN b e).1 (h.rN b e).2
  · rcases hb with e | e
    · subst e; exact h.pB
    · exact h.rB b e
theorem JH.readable {w0 w : World} {v : Value} {p : Nat} {r : Option Nat} {M F : Nat → Prop} {D E : Dk} (h : JH w0 w v p r M F D E) {u : Value} {d : Dat} (hu : Rd w (fun b => b < w0.heap.size) u d) : Rd w (dkF p r M) u d :=
  hu.weak (fun b _ hb => by
    have hb' : b < w0.heap.size := hb
    refine ⟨fun e => ?_, fun e => ?_, fun hm => ?_⟩
    · have := h.pB; omega
    · have := h.rB b e; omega
    · have := h.mB b hm; omega)
end Go.Proofs.Ytjaiffefgjopmaa
