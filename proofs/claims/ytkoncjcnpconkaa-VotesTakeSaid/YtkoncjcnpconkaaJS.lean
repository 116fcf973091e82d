/- JS: layer 13: a book and a list of votes side by side. -/
import Derived.Test.YtkoncjcnpconkaaJL
namespace Go.Proofs.Ytkoncjcnpconkaa
open Go.RowKit Go.V
/-- behind the world w: a book at kv to which B came, and a list of votes C at ov, whose bytes lie in G -/
structure VJ (w wr : World) (kv : Value) (M F G : Nat → Prop) (ov : Value) (B C : List Vt) : Prop where
  bx : BX wr kv M F B
  row : ∃ xs, wr.ownsRow w.heap.size 27 38 ov C.length xs ∧ WdX wr G vtD C xs
  B : Below w.heap.size w wr
  m : ∀ b, M b → w.heap.size ≤ b
  ap : ∀ b, M b ∨ F b → ov.ownBlock ≠ some b
theorem VJ.below {w wr w' : World} {kv : Value} {M F G : Nat → Prop} {ov : Value} {B C : List Vt} (h : VJ w wr kv M F G ov B C) (hB : Below wr.heap.size wr w') : VJ w w' kv M F G ov B C := by
  obtain ⟨xs, h1, h2⟩ := h.row
  exact ⟨h.bx.below hB, ⟨xs, own_bel h1 hB, h2.keep (fun b hb hf => ⟨hf, hB.block b hb⟩)⟩, h.B.trans (hB.mono h.B.size), h.m, h.ap⟩
theorem VJ.start {w wr : World} {kv : Value} {M F : Nat → Prop} (G : Nat → Prop) {B : List Vt} (h : BX wr kv M F B) (hB : Below w.heap.size w wr) (hm : ∀ b, M b → w.heap.size ≤ b) : VJ w wr kv M F G (.slice none 0 0) B [] :=
  ⟨h, ⟨[], World.ownsRow_nil _ _ _ _, rfl⟩, hB, hm, fun _ _ e => by cases e⟩
theorem VJ.took {w wr w' : World} {kv : Value} {M F G : Nat → Prop} {ov : Value} {B B' C : List Vt} (h : VJ w wr kv M F G ov B C) (hG : ∀ b, G b → b < w.heap.size) (hp : BXp wr M F kv B' w') : ∃ M' F', VJ w w' kv M' F' G ov B' C ∧ Ch M wr w' := by
  obtain ⟨M', F', hI, hC, hM, hF⟩ := hp
  obtain ⟨xs, h1, h2⟩ := h.row
  have hs := h.B.size
  refine ⟨M', F', ⟨hI, ⟨xs, ?_, h2.keep (fun b hb hf => ⟨hf, hC.block b hb (fun hm => by have := h.m b hm; have := hG b hf; omega)⟩)⟩, ?_, fun b hb => (hM b hb).elim (h.m b) (fun e => by omega), ?_⟩, hC⟩
  · rcases h1.2 with ⟨rfl, h0⟩ | ⟨g, cap, cur, rfl, hg, hh, hr⟩
    · exact ⟨h1.1, .inl ⟨rfl, h0⟩⟩
    · exact ⟨h1.1, .inr ⟨g, cap, cur, rfl, hg, (hC.block g (lt_of_block hh) (fun hm => h.ap g (.inl hm) rfl)).trans hh, hr⟩⟩
  · exact ⟨hC.os.trans h.B.os, hC.tape.trans h.B.tape, hC.output.trans h.B.output, Nat.le_trans hs hC.size, fun k hk => (hC.block k (by omega) (fun hm => by have := h.m k hm; omega)).trans (h.B.block k hk)⟩
  · intro b hb e
    have hlt := (h1.lt b e).2
    rcases hb with hb | hb
    · rcases hM b hb with h' | h'
      · exact h.ap b (.inl h') e
      · omega
    · rcases hF b hb with h' | h' | h'
      · exact h.ap b (.inr h') e
      · exact h.ap b (.inl h') e
      · omega
theorem VJ.push {w w1 w2 : World} {kv : Value} {M F G : Nat → Prop} {ov v4 : Value} {B C : List Vt} {m : Vt} {xs us : List Value} (hbx : BX w1 kv M F B) (hro : w1.ownsRow w.heap.size 27 38 ov C.length xs) (hx : WdX w1 G vtD C xs) (hB : Below w.heap.size w w1) (hm0 : ∀ b, M b → w.heap.size ≤ b) (hap : ∀ b, M b ∨ F b → ov.ownBlock ≠ some b) (hG : ∀ b, G b → b < w.heap.size)
    (hm : WdEl w1 G vtD m us) (ho : w2.ownsRow w.heap.size 27 38 v4 (C.length + 1) (xs ++ us)) (hg : w1.grownBy w2 ov.ownBlock) (hd : v4.ownBlock = ov.ownBlock ∨ ∃ g, v4.ownBlock = some g ∧ w1.heap.size ≤ g) : VJ w w2 kv M F G v4 B (C ++ [m]) := by
  have hk : ∀ b, b < w1.heap.size → G b → G b ∧ w2.heap[b]? = w1.heap[b]? := fun b hb hf => ⟨hf, hg.block b hb (fun e => by have := (hro.lt b e.symm).1; have := hG b hf; omega)⟩
  refine ⟨hbx.keep (fun b hb hmf => hg.block b hb (fun e => hap b hmf e.symm)) hg.size, ⟨xs ++ us, by rw [List.length_append]; exact ho, WdX.snoc (hm.keep hk) (hx.keep hk)⟩, hB.grown hg hB.size (fun k hk => (hro.lt k hk).1), hm0, fun b hmf e => ?_⟩
  rcases hd with h | ⟨g, h, hge⟩
  · exact hap b hmf (h.symm.trans e)
  · have := hbx.bd b hmf
    rw [h] at e
    injection e with e
    omega
theorem VJ.rd {w wr : World} {kv : Value} {M F G : Nat → Prop} {ov : Value} {B C : List Vt} (h : VJ w wr kv M F G ov B C) : Rd wr (fun _ => True) ov (wds vtD C) := by
  obtain ⟨xs, h1, h2⟩ := h.row
  exact wds_own h1 h2 (fun _ _ => trivial) (fun _ _ => trivial)
end Go.Proofs.Ytkoncjcnpconkaa
