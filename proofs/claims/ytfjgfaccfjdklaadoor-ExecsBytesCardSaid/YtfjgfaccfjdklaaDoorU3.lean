/- U3: layer 14: the law's wakes. -/
import Derived.Test.YtfjgfaccfjdklaaDoorUC
namespace Go.Proofs.YtfjgfaccfjdklaaDoor
open Go.RowKit Go.V
theorem eqRs (a : Bool) (n : Int) : ∀ W : World, (Op.equalIn 10000 29 (.agg (rvs (a, n)).toArray) (.agg (rvs (a, n)).toArray)).run Tryd.prog W = .ok true W := fun W => by
  show (Op.equalIn 10000 29 (.agg #[.bool a, .int .i64 n]) (.agg #[.bool a, .int .i64 n])).run Tryd.prog W = .ok true W
  go_simp
theorem zeroOk : (Tryd.prog.info? 51).map (·.zero) = some (some (.agg (Ok.l ⟨0, 0, 0, 0⟩).toArray)) := by kernel_rfl
theorem neRs (r : Bool × Int) : ∀ W : World, (Op.equalIn 10000 29 (.agg (rvs r).toArray) (.agg (rvs r).toArray)).run Tryd.prog W = .ok true W := eqRs r.1 r.2
theorem eqCl (a : Bool) (n : Int) : ∀ W : World, (Op.equalIn 10000 26 (.agg (Cl.l ⟨a, n⟩).toArray) (.agg (Cl.l ⟨a, n⟩).toArray)).run Tryd.prog W = .ok true W := fun W => by
  show (Op.equalIn 10000 26 (.agg #[.bool a, .int .i64 n]) (.agg #[.bool a, .int .i64 n])).run Tryd.prog W = .ok true W
  go_simp
theorem zeros_in : ClIn (List.replicate 16 zC) := ⟨by simp, fun x hx => by rw [List.eq_of_mem_replicate hx]; exact ⟨by show (-9223372036854775808 : Int) ≤ 0; omega, by show (0 : Int) ≤ _; omega⟩⟩
theorem bldCs : ∀ W : World, (Instr.build 27 #[]).run Tryd.prog W = .ok (.agg (cvs (List.replicate 16 zC)).toArray) W := fun _ => by kernel_rfl
theorem bldOk (k y a b : Int) : ∀ W : World, (Instr.build 51 #[(0, .int .i64 k), (1, .int .i64 y), (2, .int .i64 a), (3, .int .i64 b)]).run Tryd.prog W = .ok (.agg (Ok.l ⟨k, y, a, b⟩).toArray) W := fun _ => by kernel_rfl
theorem bldOk3 (k y a : Int) : ∀ W : World, (Instr.build 51 #[(0, .int .i64 k), (1, .int .i64 y), (2, .int .i64 a)]).run Tryd.prog W = .ok (.agg (Ok.l ⟨k, y, a, 0⟩).toArray) W := fun _ => by kernel_rfl
theorem bldOk2 (k y : Int) : ∀ W : World, (Instr.build 51 #[(0, .int .i64 k), (1, .int .i64 y)]).run Tryd.prog W = .ok (.agg (Ok.l ⟨k, y, 0, 0⟩).toArray) W := fun _ => by kernel_rfl
theorem wake_do : (doK (nmF (List.replicate 16 zC)) ⟨3, 3, 5, 0⟩).2 = (true, 5) ∧ (doK (nmF (List.replicate 16 zC)) ⟨3, 3, 5, 0⟩).1.getD 3 none = some 5 := by decide +kernel
theorem nm_some_eq {x : Cl} {n : Int} (h : nmC x = some n) : x = ⟨true, n⟩ := by
  obtain ⟨t, m⟩ := x
  cases t
  · cases h
  · have : m = n := by injection h
    rw [this]
end Go.Proofs.YtfjgfaccfjdklaaDoor
