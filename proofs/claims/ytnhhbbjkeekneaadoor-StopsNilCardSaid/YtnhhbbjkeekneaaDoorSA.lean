/- SA: several texts in one (S9 SA). -/
import Derived.Test.YtnhhbbjkeekneaaDoorS8
import Derived.BigRegion
import Derived.IntWalk
import Derived.Test.YtnhhbbjkeekneaaDoorVA
import Derived.Test.YtnhhbbjkeekneaaDoorRB
/- S9: contract of the document's block. -/
namespace Go.V
open Go.RowKit
/-- 'v reads as these words' -/
def RdW (w : World) (F : Nat → Prop) (v : Value) (l : List UInt32) : Prop := ∃ A c, v = .slice A l.length c ∧ l.length ≤ c ∧ c ≤ maxLen ∧ ∀ j (u : Value), (wvs l)[j]? = some u → ∃ g off, A = some ⟨g, off, none⟩ ∧ F g ∧ w.cell? ⟨g, off + j, none⟩ = some u
theorem RdW.keep {w w' : World} {F : Nat → Prop} {v : Value} {l : List UInt32} (h : RdW w F v l) (hb : ∀ b, b < w.heap.size → F b → w'.heap[b]? = w.heap[b]?) : RdW w' F v l := by
  obtain ⟨A, c, hv, h1, h2, h3⟩ := h
  refine ⟨A, c, hv, h1, h2, fun j u hu => ?_⟩
  obtain ⟨g, off, hA, hg, hc⟩ := h3 j u hu
  exact ⟨g, off, hA, hg, (World.cell?_of_block (hb g (lt_of_cell hc) hg)).trans hc⟩
theorem RdW.below {w w' : World} {F : Nat → Prop} {v : Value} {l : List UInt32} (h : RdW w F v l) (hB : Below w.heap.size w w') : RdW w' F v l := h.keep fun b hb _ => hB.block b hb
theorem RdW.of_own {w : World} {base : Nat} {e : TypeId} {v : Value} {n : Nat} {l : List UInt32} (h : w.ownsRow base e 1 v n (wvs l)) : RdW w (fun b => base ≤ b) v l := by
  have hn : n = l.length := by have := h.1; simp [wvs] at this; omega
  subst hn
  rcases h.2 with ⟨rfl, h0⟩ | ⟨g, cap, cur, rfl, hg, hh, h1, h2, h3, h4⟩
  · have : l = [] := List.eq_nil_of_length_eq_zero h0
    subst this
    exact ⟨none, 0, rfl, Nat.le_refl _, by simp [maxLen], fun j u hu => by simp [wvs] at hu⟩
  · refine ⟨_, cap, rfl, h1, h2, fun j u hu => ⟨g, 0, rfl, hg, ?_⟩⟩
    have := h.cells (g := g) rfl j u hu
    rw [add_mk] at this
    exact this
end Go.V
namespace Go.Proofs.YtnhhbbjkeekneaaDoor
open Go.RowKit Go.V
/-- what holds while the rounds go -/
def QS (b : List UInt8) (w w' : World) : Prop := Blk w' w.heap.size 95 (wvs (wl b 64)) ∧ Below w.heap.size w w'
def QSx (b : List UInt8) (k : Nat) (x : UInt32) (w w' : World) : Prop := w'.cell? ⟨w.heap.size, k, none⟩ = some (.int .u32 (x.toNat : Int)) ∧ QS b w w'
theorem QS.x {b : List UInt8} {k : Nat} {x : UInt32} {w w' : World} (h : QS b w w') (hx : (wl b 64)[k]? = some x) : QSx b k x w w' := ⟨h.1.cellAt k _ (wvs_at _ _ _ hx), h⟩
theorem QS.belowR {b : List UInt8} {k : Nat} {x : UInt32} {w w' w'' : World} (hB : Below w'.heap.size w' w'') (h : QS b w w') (hx : Hid ((wl b 64)[k]? = some x)) : QSx b k x w w'' := QS.x ⟨h.1.below hB, h.2.trans (hB.mono h.2.size)⟩ hx.out
end Go.Proofs.YtnhhbbjkeekneaaDoor
/- SA: contracts of the document's Sum, Bytes, Pair, All, Chain. -/
namespace Go.Proofs.YtnhhbbjkeekneaaDoor
open Go.RowKit Go.V
/-- two digests and a place for a third -/
def P3 (x y : List UInt8) (w w' : World) : Prop := Blk w' w.heap.size 46 (bvs x) ∧ Blk w' (w.heap.size + 1) 46 (bvs y) ∧ Blk w' (w.heap.size + 1 + 1) 46 (zs8 32) ∧ Below w.heap.size w w'
theorem P3.below {x y : List UInt8} {w w' w'' : World} (h : P3 x y w w') (hB : Below w'.heap.size w' w'') : P3 x y w w'' := ⟨h.1.below hB, h.2.1.below hB, h.2.2.1.below hB, h.2.2.2.trans (hB.mono h.2.2.2.size)⟩
theorem P3.new (x y : List UInt8) (w : World) : P3 x y w (((w.alloc (.cells (bvs x).toArray 46)).alloc (.cells (bvs y).toArray 46)).alloc (.cells (zs8 32).toArray 46)) := by
  refine ⟨((Blk.new' w 46 _).alloc _).alloc _, ?_, ?_, (((Below.refl _ _).alloc (Nat.le_refl _) _).alloc (by simp) _).alloc (by simp; omega) _⟩
  · have := (Blk.new' (w.alloc (.cells (bvs x).toArray 46)) 46 (bvs y)).alloc (.cells (zs8 32).toArray 46)
    simpa using this
  · have := Blk.new' ((w.alloc (.cells (bvs x).toArray 46)).alloc (.cells (bvs y).toArray 46)) 46 (zs8 32)
    simpa using this
end Go.Proofs.YtnhhbbjkeekneaaDoor
