/- Z2: layer 9: wakes. -/
import Derived.Test.YtmjpkdehkdpdpaaDoorZC
namespace Go.V
open Go.RowKit
theorem tx_one {w : World} {F : Nat → Prop} {g : Nat} {t : TypeId} {u : Value} {x : List UInt8} (h : Blk w g t [u]) (hF : F g) (hu : Rd w F u (bys x)) : Rd w F (.slice (some ⟨g, 0, none⟩) 1 1) (tx [x]) :=
  tx_blk h hF ⟨rfl, fun i v y hv hy => by
    match i with
    | 0 => simp at hv hy; subst hv hy; exact hu
    | i + 1 => simp at hv⟩ rfl (by simp [maxLen])
theorem tx_two {w : World} {F : Nat → Prop} {g : Nat} {t : TypeId} {u v : Value} {x y : List UInt8} (h : Blk w g t [u, v]) (hF : F g) (hu : Rd w F u (bys x)) (hv : Rd w F v (bys y)) : Rd w F (.slice (some ⟨g, 0, none⟩) 2 2) (tx [x, y]) :=
  tx_blk h hF ⟨rfl, fun i z q hz hq => by
    match i with
    | 0 => simp at hz hq; subst hz hq; exact hu
    | 1 => simp at hz hq; subst hz hq; exact hv
    | i + 2 => simp at hz⟩ rfl (by simp [maxLen])
end Go.V
namespace Go.Proofs.YtmjpkdehkdpdpaaDoor
open Go.RowKit Go.V
def mW9 : Mg := ⟨2, 1, 0, 0, 0, List.replicate 32 0, [], []⟩
theorem mW9_in : MgIn mW9 := ⟨by unfold in64w mW9; decide, by unfold in64w mW9; decide, by unfold in64w mW9; decide, by unfold in64w mW9; decide, by unfold in64w mW9; decide, rfl⟩
theorem mW9_sm : MgSm mW9 := ⟨by decide, by decide, by intro t ht; cases ht⟩
theorem mW9_lo : longB mW9 = false := by decide
theorem errS_M {ks : List (List UInt8)} {m : Mg} (hh : m.h.length = 32) (hlo : longB m = false) : errS ks m = if errM m = 0 then (if (ks.length : Int) ≤ m.f then 6 else 0) else errM m := by
  unfold errS; rw [errG_M hh hlo]
theorem mW9_err : errS [[1], [2]] mW9 = 0 := by rw [errS_M rfl mW9_lo]; decide
theorem mW9_len : (slS [[1], [2]] mW9).length = 74 := by
  unfold slS
  rw [List.length_append, len_tag, len_by2 rfl]
  decide
theorem op_nil (ks : List (List UInt8)) : opR ks [] = .error 1 := rfl
theorem bld9 : ∀ W : World, (Instr.build 59 #[(0, .int .i64 2), (1, .int .i64 1)]).run Tryd.prog W = .ok (.agg (mW9.l (.slice none 0 0) (.slice none 0 0)).toArray) W := fun _ => by kernel_rfl
theorem bld9K (A : Option Addr) (n c : Nat) : ∀ W : World, (Instr.build 33 #[(0, .slice A n c)]).run Tryd.prog W = .ok (.agg #[.slice A n c, .slice none 0 0]) W := fun _ => by kernel_rfl
theorem bld22 (A B : Option Addr) (n c m d : Nat) : ∀ W : World, (Instr.buildSlice 30 2 #[(0, .slice A n c), (1, .slice B m d)]).run Tryd.prog W = .ok (.slice (some ⟨W.heap.size, 0, none⟩) 2 2) (W.alloc (.cells #[.slice A n c, .slice B m d] 35)) := fun _ => by kernel_rfl
theorem sizeKeys : (Tryd.prog.info? 33).map (·.size) = some 2 := by kernel_rfl
def zKeys : List Value := [.slice none 0 0, .slice none 0 0]
theorem zeroKeys : (Tryd.prog.info? 33).map (·.zero) = some (some (.agg zKeys.toArray)) := by kernel_rfl
theorem one_keys {A : Option Addr} {n c : Nat} : ∀ v ∈ [Value.slice A n c, .slice none 0 0], v.oneCell' = true := by
  intro v hv
  simp at hv
  rcases hv with rfl | rfl <;> rfl
end Go.Proofs.YtmjpkdehkdpdpaaDoor
