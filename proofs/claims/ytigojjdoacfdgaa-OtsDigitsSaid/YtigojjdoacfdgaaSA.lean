/- SA: contracts of the document's Sum, Bytes, Pair, All, Chain. -/
import Derived.Test.YtigojjdoacfdgaaS9
namespace Go.Proofs.Ytigojjdoacfdgaa
open Go.RowKit Go.V
theorem own_keepB {w w' : World} {base : Nat} {e : TypeId} {sz : Nat} {v : Value} {n : Nat} {xs : List Value} (h : w.ownsRow base e sz v n xs) (hB : Below w.heap.size w w') : w'.ownsRow base e sz v n xs := by
  have hg : w.grownBy w' none := ⟨hB.os, hB.tape, hB.output, hB.size, fun k hk _ => hB.block k hk⟩
  refine h.kept hg ?_
  cases hv : v.ownBlock with
  | none => exact .inl rfl
  | some k => exact .inr (by simp)
theorem own_base {w : World} {base b2 : Nat} {e : TypeId} {sz : Nat} {v : Value} {n : Nat} {xs : List Value} (h : w.ownsRow base e sz v n xs) (hb : b2 ≤ base) : w.ownsRow b2 e sz v n xs := by
  refine ⟨h.1, ?_⟩
  rcases h.2 with hn | ⟨g, cap, cur, hv, hbb, rest⟩
  · exact .inl hn
  · exact .inr ⟨g, cap, cur, hv, Nat.le_trans hb hbb, rest⟩
/-- a stop for the walk -/
def StopW (P : Program) (ops : Array Oper) (Q : Exit → Act → World → Prop) (l : List Oper) (a : Act) (w : World) : Prop := wpList P ops Q l a w
theorem wp_stop {P : Program} {ops : Array Oper} {Q : Exit → Act → World → Prop} {l : List Oper} {a : Act} {w : World} (h : StopW P ops Q l a w) : wpList P ops Q l a w := h
theorem wp_go {P : Program} {ops : Array Oper} {Q : Exit → Act → World → Prop} {l : List Oper} {a : Act} {w : World} (h : wpList P ops Q l a w) : StopW P ops Q l a w := h
theorem fixR8 (x : Nat) : fixR 8 x = fx 8 x := by unfold fixR; rw [if_pos (by unfold okN; omega)]; rfl
theorem fixR4 (x : Nat) : fixR 4 x = fx 4 x := by unfold fixR; rw [if_pos (by unfold okN; omega)]; rfl
theorem pad_len (p : List UInt8) : (pad p).length = p.length + 1 + padN p.length + 8 := by simp [pad, len_fx]; omega
theorem pad_mod (p : List UInt8) : (pad p).length % 64 = 0 := by rw [pad_len]; unfold padN; omega
theorem padN_at (n k : Nat) (hk : k ≤ padN n) : (n + 1 + k) % 64 = 56 ↔ k = padN n := by unfold padN at *; omega
theorem app_zeros (p : List UInt8) (k : Nat) : bvs (p ++ (128 :: List.replicate k 0)) ++ [.int .u8 0] = bvs (p ++ (128 :: List.replicate (k + 1) 0)) := by
  simp [bvs, List.replicate_succ', byteV]
theorem one_zs8 : ∀ v ∈ zs8 32, v.oneCell' = true := by
  intro v hv
  have := List.eq_of_mem_replicate hv
  rw [this]
  rfl
theorem bld25 : ∀ W : World, (Instr.build 23 ([] : List (Nat × Value)).toArray).run Try.prog W = .ok (.agg (zs8 32).toArray) W := fun _ => by kernel_rfl
/-- two digests and a place for a third -/
def P3 (x y : List UInt8) (w w' : World) : Prop := Blk w' w.heap.size 23 (bvs x) ∧ Blk w' (w.heap.size + 1) 23 (bvs y) ∧ Blk w' (w.heap.size + 1 + 1) 23 (zs8 32) ∧ Below w.heap.size w w'
theorem P3.below {x y : List UInt8} {w w' w'' : World} (h : P3 x y w w') (hB : Below w'.heap.size w' w'') : P3 x y w w'' := ⟨h.1.below hB, h.2.1.below hB, h.2.2.1.below hB, h.2.2.2.trans (hB.mono h.2.2.2.size)⟩
theorem P3.new (x y : List UInt8) (w : World) : P3 x y w (((w.alloc (.cells (bvs x).toArray 23)).alloc (.cells (bvs y).toArray 23)).alloc (.cells (zs8 32).toArray 23)) := by
  refine ⟨((Blk.new' w 23 _).alloc _).alloc _, ?_, ?_, (((Below.refl _ _).alloc (Nat.le_refl _) _).alloc (by simp) _).alloc (by simp; omega) _⟩
  · have := (Blk.new' (w.alloc (.cells (bvs x).toArray 23)) 23 (bvs y)).alloc (.cells (zs8 32).toArray 23)
    simpa using this
  · have := Blk.new' ((w.alloc (.cells (bvs x).toArray 23)).alloc (.cells (bvs y).toArray 23)) 23 (zs8 32)
    simpa using this
end Go.Proofs.Ytigojjdoacfdgaa
