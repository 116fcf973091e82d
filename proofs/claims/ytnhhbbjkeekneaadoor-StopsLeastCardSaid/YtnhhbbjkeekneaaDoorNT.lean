/- NT: a message that was opened: its cells; '&T{..}' in a region that draws its order. -/
import Derived.Test.YtnhhbbjkeekneaaDoorNU
import Derived.Great.Walk
namespace Go.V
open Go.RowKit
section
variable {P : Program} {w : World} {ops : Array Oper} {o : Oper} {a : Act} {K : Act → World → Prop} {Q : Exit → Act → World → Prop} {E : Prop}
/-- '&T{..}', in a region that draws its order -/
theorem step_box18 (t : TypeId) (x : Operand) (hgd : o.guard = none) (ho : o.op = .box t x) {l : List Value} (hx : a.eval x = .agg l.toArray)
    (h : ∀ g w', w.heap.size ≤ g → g < w'.heap.size → Blk w' g t l → Below w.heap.size w w' → K (a.put o.dst (.pointer (some ⟨g, 0, none⟩))) w') : if Region.wanted o (yielded ops a.tmps) = true then Oper.wp P o a w K Q else E := by
  have hw : Region.wanted o (yielded ops a.tmps) = true := by simp [Region.wanted, hgd]
  rw [if_pos hw]
  unfold Oper.wp execOp
  have hr : (Instr.box t (.agg l.toArray)).run P w = .ok (.pointer (some ⟨w.heap.size, 0, none⟩)) (w.alloc (.cells l.toArray t)) := by
    simp [Instr.box, newVar, newRow, Value.cells]
  simp only [ho, hx, Sem.run_bind, Sem.run_pure, hr, Result.andThen_ok]
  exact h _ _ (Nat.le_refl _) (by simp) (Blk.new' w t l) ((Below.refl _ _).alloc (Nat.le_refl _) _)
end
end Go.V
namespace Go.Proofs.YtnhhbbjkeekneaaDoor
open Go.RowKit Go.V
theorem opofN_pos {ks : List (List UInt8)} {V : Vc} {X : List UInt8} {e : Nat} (h : opOf ks V X = .error e) : e ≠ 0 := by
  unfold opOf at h
  split at h
  · split at h
    · cases h
    · injection h with h; omega
  · rename_i e' he
    injection h with h
    subst h
    exact op_pos he
theorem opofN_ok {ks : List (List UInt8)} {V : Vc} {X : List UInt8} {m : Mg} (h : opOf ks V X = .ok m) : m.h.length = 32 ∧ 0 ≤ m.f ∧ m.f ≤ 15 ∧ 0 ≤ m.r ∧ m.r ≤ 40 := by
  unfold opOf at h
  split at h
  · rename_i m' hm
    split at h
    · injection h with h
      subst h
      have := op_num hm
      unfold numB at this
      have := of_decide_eq_true this
      exact ⟨op_hash hm, by omega, by omega, by omega, by omega⟩
    · cases h
  · cases h
theorem neNI {a b : Int} (h : a = b) : (a != b) = false := by rw [h]; simp
theorem neNN {a b : Int} (h : a ≠ b) : (a != b) = true := bne_iff_ne.2 h
/-- a message's cells -/
structure MF (l : List Value) (x : Mg) : Prop where
  c0 : l[0]? = some (.int .i64 x.k)
  c1 : l[1]? = some (.int .i64 x.f)
  c2 : l[2]? = some (.int .i64 x.v)
  c3 : l[3]? = some (.int .i64 x.r)
  c4 : l[4]? = some (.int .i64 x.s)
  ch : ∀ (j : Nat) (v : Value), (bvs x.h)[j]? = some v → l[5 + j]? = some v
  h : x.h.length = 32
theorem mf_of {x : Mg} (hh : x.h.length = 32) (ub up : Value) : MF (x.l ub up) x := ⟨rfl, rfl, rfl, rfl, rfl, mg_hash hh ub up, hh⟩
/-- what OpenOf tells: a message, whatever the error -/
def Op18 (w : World) (r : Except Nat Mg) (e : Ending) (w' : World) : Prop := ∃ (x : Mg) (A B : Option Addr) (a b c d k : Nat), e = .returned (.tuple #[.agg (x.l (.slice A a b) (.slice B c d)).toArray, .int .i64 (k : Int)]) ∧ x.h.length = 32 ∧ (k = 0 → r = .ok x) ∧ (k ≠ 0 → r = .error k) ∧ Below w.heap.size w w'
def zMg18 : Mg := ⟨0, 0, 0, 0, 0, List.replicate 32 0, [], []⟩
theorem zM_eq18 : zM = zMg18.l (.slice none 0 0) (.slice none 0 0) := by simp [zM, zMg18, Mg.l, zs8, bvs, byteV]
theorem op18 {ks : List (List UInt8)} {V : Vc} {X : List UInt8} {w w' : World} {e : Ending} (h : ReadP w (opOf ks V X) e w') : Op18 w (opOf ks V X) e w' := by
  cases hr : opOf ks V X with
  | error k =>
    rw [hr] at h
    obtain ⟨rfl, hB⟩ := h
    have hk := opofN_pos hr
    exact ⟨zMg18, none, none, 0, 0, 0, 0, k, by rw [zM_eq18], by simp [zMg18], fun h => absurd h hk, fun _ => rfl, hB⟩
  | ok m =>
    rw [hr] at h
    obtain ⟨⟨ub, up, rfl, hub, hup⟩, hB⟩ := h
    obtain ⟨Ab, cb, rfl⟩ := hub.shape
    obtain ⟨Ap, cp, rfl, _, _⟩ := hup.slShape
    exact ⟨m, Ab, Ap, m.b.length, cb, m.ps.length, cp, 0, rfl, (opofN_ok hr).1, fun _ => rfl, fun h => absurd rfl h, hB⟩
end Go.Proofs.YtnhhbbjkeekneaaDoor
