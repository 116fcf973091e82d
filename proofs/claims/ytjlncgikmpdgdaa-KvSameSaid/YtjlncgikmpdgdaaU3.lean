/- U3: layer 14: the law's wakes. -/
import Derived.Test.YtjlncgikmpdgdaaUC
namespace Go.Proofs.Ytjlncgikmpdgdaa
open Go.RowKit Go.V
theorem eqRs (a : Bool) (n : Int) : ∀ W : World, (Op.equalIn 10000 30 (.agg (rvs (a, n)).toArray) (.agg (rvs (a, n)).toArray)).run Try.prog W = .ok true W := fun W => by
  show (Op.equalIn 10000 30 (.agg #[.bool a, .int .i64 n]) (.agg #[.bool a, .int .i64 n])).run Try.prog W = .ok true W
  go_simp
theorem zeroOk : (Try.prog.info? 28).map (·.zero) = some (some (.agg (Ok.l ⟨0, 0, 0, 0⟩).toArray)) := by kernel_rfl
theorem neRs (r : Bool × Int) : ∀ W : World, (Op.equalIn 10000 30 (.agg (rvs r).toArray) (.agg (rvs r).toArray)).run Try.prog W = .ok true W := eqRs r.1 r.2
theorem eqCl (a : Bool) (n : Int) : ∀ W : World, (Op.equalIn 10000 23 (.agg (Cl.l ⟨a, n⟩).toArray) (.agg (Cl.l ⟨a, n⟩).toArray)).run Try.prog W = .ok true W := fun W => by
  show (Op.equalIn 10000 23 (.agg #[.bool a, .int .i64 n]) (.agg #[.bool a, .int .i64 n])).run Try.prog W = .ok true W
  go_simp
theorem zeros_in : ClIn (List.replicate 16 zC) := ⟨by simp, fun x hx => by rw [List.eq_of_mem_replicate hx]; exact ⟨by show (-9223372036854775808 : Int) ≤ 0; omega, by show (0 : Int) ≤ _; omega⟩⟩
theorem bldCs : ∀ W : World, (Instr.build 24 #[]).run Try.prog W = .ok (.agg (cvs (List.replicate 16 zC)).toArray) W := fun _ => by kernel_rfl
theorem bldOk (k y a b : Int) : ∀ W : World, (Instr.build 28 #[(0, .int .i64 k), (1, .int .i64 y), (2, .int .i64 a), (3, .int .i64 b)]).run Try.prog W = .ok (.agg (Ok.l ⟨k, y, a, b⟩).toArray) W := fun _ => by kernel_rfl
theorem bldOk3 (k y a : Int) : ∀ W : World, (Instr.build 28 #[(0, .int .i64 k), (1, .int .i64 y), (2, .int .i64 a)]).run Try.prog W = .ok (.agg (Ok.l ⟨k, y, a, 0⟩).toArray) W := fun _ => by kernel_rfl
theorem bldOk2 (k y : Int) : ∀ W : World, (Instr.build 28 #[(0, .int .i64 k), (1, .int .i64 y)]).run Try.prog W = .ok (.agg (Ok.l ⟨k, y, 0, 0⟩).toArray) W := fun _ => by kernel_rfl
theorem wake_do : (doK (nmF (List.replicate 16 zC)) ⟨3, 3, 5, 0⟩).2 = (true, 5) ∧ (doK (nmF (List.replicate 16 zC)) ⟨3, 3, 5, 0⟩).1.getD 3 none = some 5 := by decide +kernel
theorem nm_some_eq {x : Cl} {n : Int} (h : nmC x = some n) : x = ⟨true, n⟩ := by
  obtain ⟨t, m⟩ := x
  cases t
  · cases h
  · have : m = n := by injection h
    rw [this]
set_option maxRecDepth 100000 in
set_option maxHeartbeats 4000000 in
theorem wakes14_any (w : World) :
    Calls Try.prog 7 #[] w fun e w' => e = .returned (.bool true) ∧ Below w.heap.size w w' := by
  have hdo := fun W => kvdo14_any (List.replicate 16 zC) ⟨3, 3, 5, 0⟩ W zeros_in ⟨⟨by show (-9223372036854775808 : Int) ≤ 3; omega, by show (3 : Int) ≤ _; omega⟩, ⟨by show (-9223372036854775808 : Int) ≤ 3; omega, by show (3 : Int) ≤ _; omega⟩, ⟨by show (-9223372036854775808 : Int) ≤ 5; omega, by show (5 : Int) ≤ _; omega⟩, ⟨by show (-9223372036854775808 : Int) ≤ 0; omega, by show (0 : Int) ≤ _; omega⟩⟩
  rw [wake_do.1] at hdo
  have Hdo := hid hdo
  clear hdo
  have heq := eqRs true 5
  have hec := eqCl true 5
  go_enter Try.func7, Try.ntmps7
  go_wp2_with (first | refine wp_bld 24 [] rfl rfl [] rfl bldCs ?_ | refine wp_bld 28 [(0, .const (.int .i64 3)), (1, .const (.int .i64 3)), (2, .const (.int .i64 5))] rfl rfl [(0, .int .i64 3), (1, .int .i64 3), (2, .int .i64 5)] rfl (bldOk3 3 3 5) ?_)
  refine (Hdo.out _).mono ?_
  rintro e w1 ⟨c', rfl, hin, hnm, hB1⟩
  have hx : ∃ x, c'[3]? = some x := ⟨_, List.getElem?_eq_getElem (by rw [hin.len]; omega)⟩
  obtain ⟨x, hx⟩ := hx
  have hx5 : x = ⟨true, 5⟩ := nm_some_eq (by rw [← nmF_at hx, hnm]; exact wake_do.2)
  subst hx5
  obtain ⟨e1, e2⟩ := cvs_at c' 3 _ hx
  have Lc := hid (show (cvs c').length = 32 by rw [len_cvs, hin.len])
  clear hx hin hnm
  go_wp2_with (first | (refine wp_new2st 24 30 1 2 (.tmp 7) (.tmp 8) rfl rfl rfl rfl rfl rfl rfl rfl rfl rfl rfl rfl zeroCs zeroRs (fun _ _ => rfl) (fun _ _ => rfl) (lA := cvs c') (lB := rvs (true, 5)) (fun _ _ => rfl) (fun _ _ => rfl) (by rw [Lc.out, len_zCs]) rfl (by rw [Lc.out]; exact sizeCs) sizeRs (one_cvs _) (one_rvs _) ?_; intro gA gB w2 bA bB hne hgA hgB hB2; refine wp_stop ?_))
  have hr : w2.rangeAt gA (0 + 3 * 2) [.bool true, .int .i64 5] := bA.range 6 _ (fun j v hv => by
    match j with
    | 0 => simp at hv; subst hv; exact e1
    | 1 => simp at hv; subst hv; exact e2
    | j + 2 => simp at hv)
  clear e1 e2
  refine wp_go ?_
  go_wp2_with (first | refine wp_ld 30 (.tmp 2) rfl rfl rfl bB.whole Try.underlying30 rfl sizeRs ?_ | refine wp_bld 30 [(0, .const (.bool true)), (1, .const (.int .i64 5))] rfl rfl [(0, .bool true), (1, .int .i64 5)] rfl (bldRt 5) ?_ | refine wp_ixpg 24 (.tmp 1) (.const (.int .i64 3)) rfl rfl rfl (i := 3) rfl Try.underlying24 (by omega) sizeCl ?_ | refine wp_ldg 23 (.tmp 13) rfl rfl rfl hr Try.underlying23 rfl sizeCl ?_)
  go_ret
  exact ⟨rfl, hB1.trans (hB2.mono hB1.size)⟩
end Go.Proofs.Ytjlncgikmpdgdaa
