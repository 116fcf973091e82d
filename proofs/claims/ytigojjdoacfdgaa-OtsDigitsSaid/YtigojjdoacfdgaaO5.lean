/- O5: layer 4: wakes; the laws OtsRecovers, OtsOther. -/
import Derived.Test.YtigojjdoacfdgaaO4
import Derived.Stop.BytesEq
namespace Go.Proofs.Ytigojjdoacfdgaa
open Go.RowKit Go.V
theorem und38 : Try.prog.underlying 25 = some (.array 35 3) := Try.underlying25
theorem size38 : (Try.prog.info? 25).map (·.size) = some 35 := by kernel_rfl
def zsi (n : Nat) : List Value := List.replicate n (.int .i64 0)
theorem zero38 : (Try.prog.info? 25).map (·.zero) = some (some (.agg (zsi 35).toArray)) := by kernel_rfl
theorem set38 (l : List Nat) (hl : l.length = 35) : (zsi 35).take 0 ++ ivs l ++ (zsi 35).drop (0 + (ivs l).length) = ivs l := by
  rw [List.take_zero, List.nil_append, len_ivs, hl, List.drop_of_length_le (by simp [zsi]), List.append_nil]
theorem eqH4 (p q : List UInt8) (hp : p.length = 32) (hq : q.length = 32) : ∀ W : World, (Op.equalIn 10000 23 (.agg (bvs p).toArray) (.agg (bvs q).toArray)).run Try.prog W = .ok (p == q) W := fun W =>
  run_equalIn_bytes (P := Try.prog) W 9998 23 5 32 und25 Try.underlying5 Try.sizeOf5 p q hp hq
theorem dig_zero : digF (List.replicate 32 0) = List.replicate 32 0 ++ [1, 14, 0] := by decide +kernel
set_option maxRecDepth 100000 in
set_option maxHeartbeats 1000000 in
theorem wakes4_any (w : World) :
    Calls Try.prog 4 #[] w fun e w' => e = .returned (.bool true) ∧ Below w.heap.size w w' := by
  have hz := Blk.new' w 25 (zsi 35)
  go_enter Try.func4, Try.ntmps4
  go_wp2_with (refine wp_bld 23 [] rfl rfl [] rfl bld25 ?_)
  rw [zs8_bvs]
  refine (digits_any (List.replicate 32 0) _ (by simp)).mono ?_
  rintro e w1 ⟨rfl, hB1⟩
  obtain ⟨D, hD⟩ : ∃ D, D = digF (List.replicate 32 0) := ⟨_, rfl⟩
  rw [← hD]
  have hDl : Hid (D.length = 35) := by show _ = _; rw [hD]; exact len_dig _ (by simp)
  have hD0 : Hid (D[0]? = some 0 ∧ D[31]? = some 0 ∧ D[32]? = some 1 ∧ D[33]? = some 14 ∧ D[34]? = some 0) := by show _ ∧ _; rw [hD, dig_zero]; decide
  clear hD
  have hz1 := Blk.new' w1 25 (zsi 35)
  have hB2 := hB1.alloc hB1.size (.cells (zsi 35).toArray 25)
  go_wp2_with (first | (refine wp_new 25 rfl rfl zero38 ?_) | (refine wp_st 25 (.tmp 1) (.tmp 3) rfl rfl rfl (f := 0) rfl (l := ivs D) rfl hz1 (by simp [zsi, len_ivs, hDl.out]) (by rw [len_ivs, hDl.out]; exact size38) (oneCell_ivs _) ?_; intro w5 hb5 hG5; refine wp_stop ?_))
  rw [set38 _ hDl.out] at hb5
  have hB5 := hB2.grown hG5 hB2.size (by intro k hk; injection hk with hk; have := hB1.size; omega)
  refine wp_go ?_
  have c0 := hb5.cellAt 0 _ (ivs_at D 0 0 hD0.out.1)
  have c1 := hb5.cellAt 31 _ (ivs_at D 31 0 hD0.out.2.1)
  have c2 := hb5.cellAt 32 _ (ivs_at D 32 1 hD0.out.2.2.1)
  have c3 := hb5.cellAt 33 _ (ivs_at D 33 14 hD0.out.2.2.2.1)
  have c4 := hb5.cellAt 34 _ (ivs_at D 34 0 hD0.out.2.2.2.2)
  rw [show ((0 : Nat) : Int) = 0 from rfl] at c0 c1 c4
  rw [show ((1 : Nat) : Int) = 1 from rfl] at c2
  rw [show ((14 : Nat) : Int) = 14 from rfl] at c3
  go_wp2
  go_ret
  exact ⟨rfl, hB5⟩
end Go.Proofs.Ytigojjdoacfdgaa
