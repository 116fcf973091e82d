/- N5: contracts of a reader's methods that read on. -/
import Derived.Test.YthibjdbjkkejeaaN4
namespace Go.Proofs.Ythibjdbjkkejeaa
open Go.RowKit Go.V

def only (p : Nat) : Nat → Prop := fun b => b = p
theorem RdR.free {w : World} {p : Nat} {F : Nat → Prop} {bs : List UInt8} {k : Nat} (h : RdR w p F bs k) : w.frozen? ⟨p, 1, none⟩ = false := by
  obtain ⟨v, h1, _⟩ := h
  simp [World.frozen?, h1]
theorem heap_set_same (w : World) (p i : Nat) (u : Value) (cs : Array Value) (t : TypeId) (h : w.heap[p]? = some (.cells cs t (0, 0))) : (w.setCell ⟨p, i, none⟩ u).heap[p]? = some (.cells (cs.setIfInBounds i u) t (0, 0)) := by
  simp [World.setCell, Array.getElem?_modify, h]
theorem RdR.set {w : World} {p : Nat} {F : Nat → Prop} {bs : List UInt8} {k : Nat} (h : RdR w p F bs k) (k' : Nat) (hk : k' ≤ bs.length) : RdR (w.setCell ⟨p, 1, none⟩ (.int .i64 (k' : Int))) p F bs k' := by
  obtain ⟨v, h1, h2, _, h4⟩ := h
  refine ⟨v, by rw [heap_set_same _ _ _ _ _ _ h1]; rfl, h2.keep (fun b _ hf => ⟨hf, Below.heap_setCell _ _ _ _ (fun e => by have e' : b = p := e; subst e'; exact h4 hf)⟩), hk, h4⟩
theorem Ch.set {w : World} {p i : Nat} (u : Value) : Ch (only p) w (w.setCell ⟨p, i, none⟩ u) :=
  ⟨rfl, rfl, rfl, by simp [World.setCell], fun k _ hk => Below.heap_setCell _ _ _ _ hk⟩

def lenP : Except Nat (Nat × Nat) → Nat | .ok (_, n) => n | .error _ => 0
def e1 (r : Except Nat (Nat × Nat)) : Ending := match r with
  | .ok (x, _) => .returned (.tuple #[.int .u64 (x : Int), .int .i64 0])
  | .error e => .returned (.tuple #[.int .u64 0, .int .i64 (e : Int)])
/-- a call on a reader: what it answers, how far it stands then, nothing else turned -/
def On (p : Nat) (F : Nat → Prop) (bs : List UInt8) (w : World) (e0 : Ending) (k' : Nat) : Ending → World → Prop :=
  fun e w' => e = e0 ∧ RdR w' p F bs k' ∧ Ch (only p) w w'

def e2 (r : Except Nat (Nat × Nat)) : Ending := match r with
  | .ok (x, _) => .returned (.tuple #[.int .i64 (unfoldZ x), .int .i64 0])
  | .error e => .returned (.tuple #[.int .i64 0, .int .i64 (e : Int)])
def cntR (most : Int) : Except Nat (Nat × Nat) → Except Nat (Nat × Nat)
  | .ok (x, n) => if most < 0 ∨ most < (x : Int) then .error 3 else .ok (x, n)
  | .error e => .error e
def eC (r : Except Nat (Nat × Nat)) : Ending := match r with
  | .ok (x, n) => .returned (.tuple #[.int .i64 (x : Int), .int .i64 (n : Int), .int .i64 0])
  | .error e => .returned (.tuple #[.int .i64 0, .int .i64 0, .int .i64 (e : Int)])
end Go.Proofs.Ythibjdbjkkejeaa
