/- A4: layer 15: the laws' wakes. -/
import Derived.Test.YtfjgfaccfjdklaaDoorAC
import Derived.Test.YtfjgfaccfjdklaaDoorUV
namespace Go.Proofs.YtfjgfaccfjdklaaDoor
open Go.RowKit Go.V
deriving instance DecidableEq for Rp
theorem sizeC15 : (Tryd.prog.info? 26).map (·.size) = some 2 := by kernel_rfl
theorem undC15 : Tryd.prog.underlying 27 = some (.array 16 26) := by kernel_rfl
theorem slRq15 : SlW Tryd.prog 54 53 zRq 7 72 := .of Tryd.underlying54 (by kernel_rfl) (by simp [zRq]) (by omega) (by omega)
theorem bldVw (M : Int) : ∀ W : World, (Instr.build 24 #[(1, .int .u16 M)]).run Tryd.prog W = .ok (.agg #[.int .i64 0, .int .u16 M]) W := fun _ => by kernel_rfl
theorem bldOp15 (k y a : Int) : ∀ W : World, (Instr.build 51 #[(0, .int .i64 k), (1, .int .i64 y), (2, .int .i64 a)]).run Tryd.prog W = .ok (.agg #[.int .i64 k, .int .i64 y, .int .i64 a, .int .i64 0]) W := fun _ => by kernel_rfl
theorem bldRq15 (c s k y a b : Int) : ∀ W : World, (Instr.build 53 #[(0, .int .i64 c), (1, .int .i64 s), (2, .agg #[.int .i64 k, .int .i64 y, .int .i64 a, .int .i64 b])]).run Tryd.prog W = .ok (.agg #[.int .i64 c, .int .i64 s, .int .i64 k, .int .i64 y, .int .i64 a, .int .i64 b, .slice none 0 0]) W := fun _ => by kernel_rfl
theorem bldRs15 : ∀ W : World, (Instr.build 29 #[(0, .bool true)]).run Tryd.prog W = .ok (.agg #[.bool true, .int .i64 0]) W := fun _ => by kernel_rfl
theorem eqRp15 (r : Rp) : ∀ W : World, (Op.equalIn 10000 31 (.agg r.l.toArray) (.agg r.l.toArray)).run Tryd.prog W = .ok true W := fun W => by
  show (Op.equalIn 10000 31 (.agg #[.int .i64 r.c, .int .i64 r.s, .int .i64 r.k, .bool r.o, .int .i64 r.n]) (.agg #[.int .i64 r.c, .int .i64 r.s, .int .i64 r.k, .bool r.o, .int .i64 r.n])).run Tryd.prog W = .ok true W
  go_simp
theorem first_in {v : Vw} (h : i64s v.n ∧ v.m < 65536) : WoIn (firstW v) := by
  refine ⟨by show i64s 0; unfold i64s; omega, by show i64s 1; unfold i64s; omega, h, h, ⟨by show (List.replicate 16 zC).length = 16; simp, fun x hx => ?_⟩, by show ((List.range 6).map zRp).length = 6; simp, fun r hr => ?_⟩
  · rw [List.eq_of_mem_replicate hx]; show i64s 0; unfold i64s; omega
  · obtain ⟨c, _, rfl⟩ := List.mem_map.1 hr
    exact ⟨by show i64s 0; unfold i64s; omega⟩
def rq1 : Rq := ⟨1, 1, 2, 2, 9, 0, []⟩
theorem wake_do15 : (doW (firstW ⟨0, 15⟩).e [rq1]).2 = [⟨1, 1, 1, true, 0⟩] ∧ (doW (firstW ⟨0, 15⟩).e [rq1]).1.s = 1 ∧ (doW (firstW ⟨0, 15⟩).e [rq1]).1.c[2]? = some (some 9) := by decide +kernel
theorem nm_at {c : List Cl} {i : Nat} {n : Int} (h : (nmF c)[i]? = some (some n)) : c[i]? = some ⟨true, n⟩ := by
  unfold nmF at h
  rw [List.getElem?_map] at h
  cases hc : c[i]? with
  | none => rw [hc] at h; cases h
  | some x =>
    rw [hc] at h
    obtain ⟨t, m⟩ := x
    injection h with h
    cases t
    · cases h
    · injection h with h
      show some (⟨true, m⟩ : Cl) = _
      rw [show m = n from h]
set_option maxRecDepth 100000 in
set_option maxHeartbeats 4000000 in
theorem wakes15_any (w : World) :
    Calls Tryd.prog 4 #[] w fun e w' => e = .returned (.bool true) ∧ Below w.heap.size w w' := by
  have hv15 : i64s (⟨0, 15⟩ : Vw).n ∧ (⟨0, 15⟩ : Vw).m < 65536 := ⟨by show i64s 0; unfold i64s; omega, by show 15 < 65536; omega⟩
  have hin := first_in hv15
  have hfi := fun X => efirst15_any ⟨0, 15⟩ X hv15
  have hdo := fun lv F X hl => edo15_any (firstW ⟨0, 15⟩) [rq1] lv F X hin okc_zero ⟨by show (-4611686018427387904 : Int) ≤ 0; omega, by show (0 : Int) ≤ _; omega⟩ hl (fun r hr => by rw [List.mem_singleton.1 hr]; exact ⟨⟨by decide, by decide⟩, ⟨by decide, by decide⟩⟩) (by show 1 ≤ 1000; omega)
  obtain ⟨D, hD⟩ : ∃ D, D = doW (firstW ⟨0, 15⟩).e [rq1] := ⟨_, rfl⟩
  have hwk := wake_do15
  rw [← hD] at hdo hwk
  obtain ⟨DW, DL⟩ := D
  obtain ⟨hw1, hw2, hw3⟩ := hwk
  dsimp only at hw1 hw2 hw3 hdo
  subst hw1
  have hwl := wol hin
  obtain ⟨l, hl⟩ : ∃ l, l = (firstW ⟨0, 15⟩).l := ⟨_, rfl⟩
  rw [← hl] at hwl hfi hdo
  have Hdo := hid hdo
  have Hfi := hid hfi
  have HW := hid hwl
  have Hw2 := hid hw2
  have Hw3 := hid hw3
  clear hdo hfi hwl hw2 hw3 hl hD hin hv15
  have hbv := bldVw 15
  go_enter Tryd.func4, Tryd.ntmps4
  go_wp2_with (refine wp_bld 24 [(1, .const (.int .u16 15))] rfl rfl [(1, .int .u16 15)] rfl hbv ?_)
  refine (Hfi.out _).mono ?_
  rintro e w1 ⟨rfl, hB1⟩
  clear hbv
  go_wp2_with (refine wp_newst 34 1 (.tmp 5) rfl rfl rfl rfl rfl rfl zeroWo (l := l) rfl (by rw [HW.out.len]; exact len_zWo) (by rw [HW.out.len]; exact sizeW15) HW.out.one (by simp) ?_; intro w2 b1 hB2 hs2; refine wp_stop ?_)
  have hB2' := hB1.trans (hB2.mono hB1.size)
  obtain ⟨g1, hg1⟩ : ∃ g, g = w1.heap.size := ⟨_, rfl⟩
  rw [← hg1] at b1 ⊢
  clear hg1 hs2
  refine wp_go ?_
  go_wp2_with (first | refine wp_ld 34 (.tmp 1) rfl rfl rfl b1.whole Tryd.underlying34 rfl (by rw [HW.out.len]; exact sizeW15) ?_ | refine wp_bld 51 [(0, .const (.int .i64 2)), (1, .const (.int .i64 2)), (2, .const (.int .i64 9))] rfl rfl [(0, .int .i64 2), (1, .int .i64 2), (2, .int .i64 9)] rfl (bldOp15 2 2 9) ?_ | refine wp_bld 53 [(0, .const (.int .i64 1)), (1, .const (.int .i64 1)), (2, .tmp 8)] rfl rfl [(0, .int .i64 1), (1, .int .i64 1), (2, .agg #[.int .i64 2, .int .i64 2, .int .i64 9, .int .i64 0])] rfl (bldRq15 1 1 2 2 9 0) ?_ | refine wp_bs1W (.tmp 9) slRq15 rfl rfl (us := rq1.l (.slice none 0 0)) rfl rfl ?_)
  have hal : Below w2.heap.size w2 (w2.alloc (.cells (rq1.l (.slice none 0 0)).toArray 53)) := (Below.refl _ _).alloc (Nat.le_refl _) _
  have hb := Blk.new' w2 53 (rq1.l (.slice none 0 0))
  have hB3' := hB2'.trans (hal.mono hB2'.size)
  refine (Hdo.out _ (fun _ => True) _ (rqs_one hb (Rd.nil _ _) trivial)).mono ?_
  rintro e w3 ⟨W', rv, rfl, hin', _, he', _, hrv, hB3⟩
  have hs1 : W'.s = 1 := (congrArg We.s he').trans Hw2.out
  have hc2 := nm_at (c := W'.c) (i := 2) (n := 9) ((congrArg (fun E : We => E.c[2]?) he').trans Hw3.out)
  have hwl := wol hin'
  have d11 := hwl.c 5 _ (cvs_at _ _ _ hc2).2
  have d0 := hwl.s
  rw [hs1] at d0
  obtain ⟨l2, hl2⟩ : ∃ l2, l2 = W'.l := ⟨_, rfl⟩
  rw [← hl2] at hwl d11 d0 ⊢
  have HL := hid hwl.len
  have HO := hid hwl.one
  obtain ⟨A3, k3, rfl, _, _⟩ := wds_shape hrv
  obtain ⟨g3, o3, cs, rfl, _, hrg, hel⟩ := wd_el hrv (i := 0) (a := ⟨1, 1, 1, true, 0⟩) rfl
  have hcs := rp_open hel
  subst hcs
  have hB4' := hB3'.trans (hB3.mono hB3'.size)
  have Hd0 := hid d0
  have Hd11 := hid d11
  clear hl2 hs1 hc2 hwl hel hrv hin' he' hal hb d0 d11 hB1 hB2 hB3
  show _
  go_wp2_with (refine wp_newst 34 2 (.tmp 12) rfl rfl rfl rfl rfl rfl zeroWo (l := l2) rfl (by rw [HL.out]; exact len_zWo) (by rw [HL.out]; exact sizeW15) HO.out (by simp) ?_; intro w5 b2 hB5 hs5; refine wp_stop ?_)
  have hrg5 : w5.rangeAt g3 o3 [.int .i64 1, .int .i64 1, .int .i64 1, .bool true, .int .i64 0] := fun j v hv => (hB5.cell (lt_of_cell (hrg j v hv))).trans (hrg j v hv)
  have c0 := b2.cellAt 0 _ Hd0.out
  have c11 := b2.cellAt 11 _ Hd11.out
  have hB5' := hB4'.trans (hB5.mono hB4'.size)
  refine wp_go ?_
  go_wp2_with (first | refine wp_ixag 47 (.tmp 23) (.const (.int .i64 0)) (by rfl) rfl rfl (i := 0) rfl Tryd.underlying47 (by omega) sizeR15 ?_ | refine wp_ldg 31 (.tmp 24) (by rfl) rfl rfl hrg5 Tryd.underlying31 rfl sizeR15 ?_ | refine wp_bldw 29 [(0, .const (.bool true))] (by rfl) rfl [(0, .bool true)] rfl bldRs15 ?_ | refine wp_bldw 31 [(0, .const (.int .i64 1)), (1, .const (.int .i64 1)), (2, .const (.int .i64 1)), (3, .tmp 26)] (by rfl) rfl [(0, .int .i64 1), (1, .int .i64 1), (2, .int .i64 1), (3, .agg #[.bool true, .int .i64 0])] rfl (bldRp15 1 1 1 true 0) ?_ | refine wp_ixpg 27 (.tmp 31) (.const (.int .i64 2)) (by rfl) rfl rfl (i := 2) rfl undC15 (by omega) sizeC15 ?_)
  go_ret
  exact ⟨rfl, hB5'⟩
end Go.Proofs.YtfjgfaccfjdklaaDoor
