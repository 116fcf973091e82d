/- AG: layer 15: contracts of execs over the landed code: begun, due, moved, done. -/
import Derived.Test.YtfjgfaccfjdklaaAD
import Derived.Test.YtfjgfaccfjdklaaUC
import Derived.Test.YtfjgfaccfjdklaaUV
import Derived.Test.YtfjgfaccfjdklaaAV
namespace Go.Proofs.Ytfjgfaccfjdklaa
open Go.RowKit Go.V
def zWo : Wo := ⟨0, 0, ⟨0, 0⟩, ⟨0, 0⟩, List.replicate 16 zC, List.replicate 6 ⟨0, 0, 0, false, 0⟩⟩
theorem zeroWo : (Try.prog.info? 38).map (·.zero) = some (some (.agg zWo.l.toArray)) := by kernel_rfl
theorem len_zWo : zWo.l.length = 68 := by decide
theorem sizeW15 : (Try.prog.info? 38).map (·.size) = some 68 := by kernel_rfl
theorem sizeR15 : (Try.prog.info? 35).map (·.size) = some 5 := by kernel_rfl
theorem one_vw (v : Vw) : ∀ x ∈ v.l, x.oneCell' = true := by
  intro x hx
  simp only [Vw.l, List.mem_cons, List.not_mem_nil, or_false] at hx
  rcases hx with rfl | rfl <;> rfl
theorem sizeIk15 : (Try.prog.info? 3).map (·.size) = some 1 := by kernel_rfl
theorem bldOp0 : ∀ W : World, (Instr.build 44 #[]).run Try.prog W = .ok (.agg (Ok.l ⟨0, 0, 0, 0⟩).toArray) W := fun _ => by kernel_rfl
theorem beg_in {W : Wo} {c : List Cl} (hW : WoIn W) (hs : i64s (W.s + 1)) (hc : ClIn c) : WoIn (begC W c) := ⟨hs, hW.f, hW.v, hW.v, hc, hW.a⟩
theorem z64 : i64s 0 := by unfold i64s; omega
set_option maxRecDepth 100000 in
set_option maxHeartbeats 8000000 in
theorem begun15_any (W : Wo) (w : World) (hW : WoIn W) (hs : i64s (W.s + 1)) :
    Calls Try.prog 10 #[.agg W.l.toArray] w fun e w' => ∃ c', e = .returned (.agg (begC W c').l.toArray) ∧ ClIn c' ∧ nmF c' = nmF W.c ∧ ZC c' ∧ Below w.heap.size w w' := by
  have hdo := fun X => kvdo15_any W.c ⟨0, 0, 0, 0⟩ X hW.c ⟨z64, z64, z64, z64⟩
  have e0 : doK (nmF W.c) ⟨0, 0, 0, 0⟩ = (nmF W.c, (false, 0)) := if_neg (fun h => absurd h.2.1 (by decide))
  rw [e0] at hdo
  clear e0
  have Hdo := hid hdo
  have hwr : IntKind.i64.wrap (W.s + 1) = W.s + 1 := IntWalk.i64_in _ (by unfold i64s at hs; omega)
  obtain ⟨W0, hW0, b1, b2, hB⟩ := alloc2 w 38 38 W.l zWo.l
  have HW := hid (wol hW)
  have HI := hid hW
  have Lc := hid (show (cvs W.c).length = 32 by rw [len_cvs, hW.c.len])
  have HL := hid (len_wo hW)
  have HLc := hid hW.c.len
  have HI1 := hid (beg_in hW hs hW.c)
  have HIc := hid (fun c => beg_in (c := c) hW hs)
  clear hdo hW hs
  go_enter Try.func10, Try.ntmps10
  go_wp2_with (first | (refine wp_new 38 rfl rfl zeroWo ?_; refine wp_stop ?_))
  rw [← hW0]
  clear hW0
  obtain ⟨g2, hg2⟩ : ∃ g, g = w.heap.size + 1 := ⟨_, rfl⟩
  rw [← hg2] at b2 ⊢
  obtain ⟨g1, hg1⟩ : ∃ g, g = w.heap.size := ⟨_, rfl⟩
  rw [← hg1] at b1 ⊢
  have hw1 : w.heap.size ≤ g1 := by omega
  have h12 : g1 < g2 := by omega
  clear hg1 hg2
  refine wp_go ?_
  go_wp2_with (first | refine wp_ld 28 (.tmp 3) rfl rfl rfl (b1.range 2 W.v.l HW.out.v) Try.underlying28 rfl sizeV ?_ | (refine wp_st 28 (.tmp 5) (.tmp 4) rfl rfl rfl (f := 4) rfl (l := W.v.l) rfl b1 (by rw [HL.out]; show 4 + 2 ≤ 68; omega) sizeV (one_vw _) ?_; intro w2 k1 G1; refine wp_stop ?_))
  obtain ⟨W1, hW1⟩ : ∃ V : Wo, V = ⟨W.s, W.f, W.v, W.v, W.c, W.a⟩ := ⟨_, rfl⟩
  have k1 : Blk w2 g1 38 W1.l := by rw [hW1, ← wl_u W W.v]; exact k1
  have b2 := b2.keep (G1.block _ b2.lt (by intro e; injection e with e; omega))
  have hB := hB.grown G1 hB.size (by intro k hk; injection hk with hk; omega)
  have c0 : w2.cell? ⟨g1, 0, none⟩ = some (.int .i64 W.s) := k1.cellAt 0 _ (by rw [hW1]; rfl)
  have HL1 : Hid (W1.l.length = 68) := by show _ = _; rw [hW1]; exact len_wo (⟨HI.out.s, HI.out.f, HI.out.v, HI.out.v, HI.out.c, HI.out.a⟩ : WoIn ⟨W.s, W.f, W.v, W.v, W.c, W.a⟩)
  have E1 := hid hW1
  clear hW1 G1 b1
  refine wp_go ?_
  go_wp2_with (first | (refine wp_st1 3 (.tmp 9) (.tmp 8) rfl rfl rfl (f := 0) rfl (v := .int .i64 (W.s + 1)) rfl k1 (by rw [HL1.out]; omega) sizeIk15 rfl rfl ?_; intro w3 k2 G2; refine wp_stop ?_))
  obtain ⟨W2, hW2⟩ : ∃ V : Wo, V = begC W W.c := ⟨_, rfl⟩
  have k2 : Blk w3 g1 38 W2.l := by
    have e : W1.l.set 0 (.int .i64 (W.s + 1)) = W2.l := by rw [hW2, E1.out]; rfl
    rw [← e]; exact k2
  have b2 := b2.keep (G2.block _ b2.lt (by intro e; injection e with e; omega))
  have hB := hB.grown G2 hB.size (by intro k hk; injection hk with hk; omega)
  have hr : w3.rangeAt g1 6 (cvs W.c) := k2.range 6 _ (by rw [hW2]; exact fun j x hx => (wol HI1.out).c j x hx)
  have HL2 : Hid (W2.l.length = 68) := by show _ = _; rw [hW2]; exact len_wo HI1.out
  have E2 := hid hW2
  clear hW2 G2 c0 HL1 E1 k1
  refine wp_go ?_
  go_wp2_with (first | refine wp_ld 31 (.tmp 11) rfl rfl rfl hr Try.underlying31 rfl (by rw [Lc.out]; exact sizeCs) ?_ | refine wp_bld 44 [] rfl rfl [] rfl bldOp0 ?_)
  refine (Hdo.out _).mono ?_
  rintro e w4 ⟨c', rfl, hc, hn, hz, hB4⟩
  have k2 := k2.below hB4
  have b2 := b2.below hB4
  have hB := hB.trans (hB4.mono hB.size)
  have Hc := hid hc
  have Hn := hid hn
  have Hz := hid hz
  have Lc' := hid (show (cvs c').length = 32 by rw [len_cvs, hc.len])
  have Ho := hid (one_cvs c')
  obtain ⟨cc, hcc⟩ : ∃ q, q = cvs c' := ⟨_, rfl⟩
  rw [← hcc] at Lc' Ho ⊢
  have Hcc := hid hcc
  clear hc hn hz hB4 hcc hr
  go_wp2_with (first | (refine wp_st 31 (.tmp 17) (.tmp 15) rfl rfl rfl (f := 6) rfl (l := cc) rfl k2 (by rw [HL2.out, Lc'.out]; omega) (by rw [Lc'.out]; exact sizeCs) Ho.out ?_; intro w5 k3 G3; refine wp_stop ?_))
  obtain ⟨W3, hW3⟩ : ∃ V : Wo, V = begC W c' := ⟨_, rfl⟩
  have k3 : Blk w5 g1 38 W3.l := by
    have e : W2.l.take 6 ++ cc ++ W2.l.drop (6 + cc.length) = W3.l := by
      rw [Lc'.out, hW3, Hcc.out, wl_c W2 c' (by rw [E2.out]; exact HLc.out), E2.out]
      rfl
    rw [← e]; exact k3
  have b2 := b2.keep (G3.block _ b2.lt (by intro e; injection e with e; omega))
  have hB := hB.grown G3 hB.size (by intro k hk; injection hk with hk; omega)
  have HL3 : Hid (W3.l.length = 68) := by show _ = _; rw [hW3]; exact len_wo (HIc.out c' Hc.out)
  have Ho3 : Hid (∀ v ∈ W3.l, v.oneCell' = true) := one_wo _
  have E3 := hid hW3
  clear hW3 G3 k2
  refine wp_go ?_
  go_wp2_with (first | refine wp_ld 38 (.tmp 1) rfl rfl rfl k3.whole Try.underlying38 rfl (by rw [HL3.out]; exact sizeW15) ?_ | (refine wp_st 38 (.tmp 2) (.tmp 18) rfl rfl rfl (f := 0) rfl (l := W3.l) rfl b2 (by rw [HL3.out, len_zWo]; omega) (by rw [HL3.out]; exact sizeW15) Ho3.out ?_; intro w6 k4 G4))
  have k4 := blk_all k4 (by rw [HL3.out, len_zWo]; omega)
  have hB := hB.grown G4 hB.size (by intro k hk; injection hk with hk; omega)
  refine ret_cell rfl rfl k4.whole Try.underlying38 rfl (by rw [HL3.out]; exact sizeW15) rfl ?_
  exact ⟨c', by rw [E3.out], Hc.out, Hn.out, Hz.out, hB⟩
end Go.Proofs.Ytfjgfaccfjdklaa
