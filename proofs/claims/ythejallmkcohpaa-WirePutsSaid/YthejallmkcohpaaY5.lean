/- Y5: layer 8: wakes. -/
import Derived.Test.YthejallmkcohpaaYH
import Derived.Test.YthejallmkcohpaaVA
namespace Go.Proofs.Ythejallmkcohpaa
open Go.RowKit Go.V
def mWake : Mg := ⟨2, 3, 0, 0, 0, List.replicate 32 0, [], []⟩
theorem mWake_l : mWake.l (.slice none 0 0) (.slice none 0 0) = .int .i64 2 :: .int .i64 3 :: .int .i64 0 :: .int .i64 0 :: .int .i64 0 :: (zs8 32 ++ [.slice none 0 0, .slice none 0 0]) := by rfl
theorem mWake_by : Mg.by mWake = [2, 3, 0, 0, 0, 0, 0, 0] ++ List.replicate 34 0 := by decide +kernel
theorem bld8 : ∀ W : World, (Instr.build 27 #[(0, .int .i64 2), (1, .int .i64 3)]).run Try.prog W = .ok (.agg (mWake.l (.slice none 0 0) (.slice none 0 0)).toArray) W := fun _ => by kernel_rfl
set_option maxRecDepth 100000 in
set_option maxHeartbeats 1000000 in
theorem wakes8_any (w : World) :
    Calls Try.prog 6 #[] w fun e w' => e = .returned (.bool true) ∧ Below w.heap.size w w' := by
  have hp := put8_any mWake (.slice none 0 0) (.slice none 0 0) nob nob w ⟨by unfold in64w mWake; decide, by unfold in64w mWake; decide, by unfold in64w mWake; decide, by unfold in64w mWake; decide, by unfold in64w mWake; decide, rfl⟩ (by decide) (Rd.nil _ _) (Rd.nil _ _)
  have he : errM mWake = 0 := by decide
  rw [he, if_pos rfl, mWake_by] at hp
  unfold Mg.val at hp
  have hb8 := bld8
  obtain ⟨l, hl⟩ : ∃ l, l = mWake.l (.slice none 0 0) (.slice none 0 0) := ⟨_, rfl⟩
  rw [← hl] at hp hb8
  clear hl he
  go_enter Try.func6, Try.ntmps6
  go_wp2_with (refine wp_bld 27 [(0, .const (.int .i64 2)), (1, .const (.int .i64 3))] rfl rfl [(0, .int .i64 2), (1, .int .i64 3)] rfl hb8 ?_)
  refine hp.mono ?_
  rintro e w1 ⟨v1, rfl, ho1, hB1⟩
  obtain ⟨g, c, rfl, _, _, h0⟩ := own_cellAt ho1 0 (.int .u8 2) rfl
  obtain ⟨g', c', e1, _, _, h1⟩ := own_cellAt ho1 1 (.int .u8 3) rfl
  injection e1 with e1
  injection e1 with e1
  injection e1 with e1
  subst e1
  obtain ⟨g', c', e1, _, _, h2⟩ := own_cellAt ho1 41 (.int .u8 0) rfl
  injection e1 with e1
  injection e1 with e1
  injection e1 with e1
  subst e1
  clear ho1 hp hb8
  rw [show ([2, 3, 0, 0, 0, 0, 0, 0] ++ List.replicate 34 0 : List UInt8).length = 42 from rfl]
  go_wp2
  go_ret
  exact ⟨rfl, hB1⟩
end Go.Proofs.Ythejallmkcohpaa
