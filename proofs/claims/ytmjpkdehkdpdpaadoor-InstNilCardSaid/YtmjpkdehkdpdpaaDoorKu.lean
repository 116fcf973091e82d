/- Ku: layer 18: InstNil. -/
import Derived.Test.YtmjpkdehkdpdpaaDoorKs
namespace Go.Proofs.YtmjpkdehkdpdpaaDoor
open Go.RowKit Go.V
theorem bldZ18 : ∀ W : World, (Instr.build 41 #[]).run Tryd.prog W = .ok (.agg (bvs (List.replicate 32 0)).toArray) W := fun _ => by kernel_rfl
set_option maxRecDepth 100000 in
set_option maxHeartbeats 8000000 in
theorem instNil_law (X : List UInt8) (v : Value) (F : Nat → Prop) (w : World) (hKS : KS w) (hv : Rd w F v (bys X)) :
    Calls Tryd.prog 6 #[v] w fun e w' => e = .returned (.bool true) ∧ Below w.heap.size w w' := by
  obtain ⟨Av, cv, rfl⟩ := hv.shape
  have hbz := bldZ18
  have Hba := hid (fun Y => ibatch18_nil (List.replicate 32 0) Y rfl)
  have Hbc := hid (fun Y h => itake18_nil X (.slice Av X.length cv) F Y h)
  obtain ⟨lz, hlz⟩ : ∃ l, l = bvs (List.replicate 32 0) := ⟨_, rfl⟩
  rw [← hlz] at hbz Hba
  clear hlz
  go_enter Tryd.func6, Tryd.ntmps6
  go_wp2_with (fail)
  refine (wakes18_any _ hKS).mono ?_
  rintro e w1 ⟨rfl, hB⟩
  go_wp2_with (refine wp_bld 41 [] rfl rfl [] rfl hbz ?_)
  refine (Hba.out _).mono ?_
  rintro e w2 ⟨u2, rfl, hu2, hB2⟩
  obtain ⟨A2, c2, rfl⟩ := hu2.shape
  have hB := hB.trans (hB2.mono hB.size)
  clear hB2 hu2
  go_wp2_with (fail)
  refine (iwritten18_nil 0 _).mono ?_
  rintro e w3 ⟨H3, u3, rfl, hH3, hu3, hB3⟩
  obtain ⟨A3, c3, rfl, _, _⟩ := hu3.slShape
  have hB := hB.trans (hB3.mono hB.size)
  have L3 : Hid ((bvs H3).length = 32) := hid (by rw [len_bvs]; exact hH3)
  have O3 := hid (oneCell_bvs H3)
  obtain ⟨l3, hl3⟩ : ∃ l, l = bvs H3 := ⟨_, rfl⟩
  rw [← hl3] at L3 O3 ⊢
  clear hl3 hH3 hu3 hB3
  go_wp2_with (refine wp_newst 41 6 (.tmp 24) rfl rfl rfl rfl rfl rfl zero25 (l := l3) rfl (by rw [L3.out]; rfl) (by rw [L3.out]; exact size25) O3.out (by simp [Act.put]) ?_; intro w4 b4 hB4 hs4; refine wp_stop ?_)
  have hB := hB.trans (hB4.mono hB.size)
  clear hB4 hs4 b4
  refine wp_go ?_
  go_wp2_with (fail)
  refine (iaccepted18_nil _).mono ?_
  rintro e w5 ⟨n5, H5, u5, rfl, hH5, hu5, hB5⟩
  obtain ⟨A5, c5, rfl, _, _⟩ := hu5.slShape
  have hB := hB.trans (hB5.mono hB.size)
  have L5 : Hid ((bvs H5).length = 32) := hid (by rw [len_bvs]; exact hH5)
  have O5 := hid (oneCell_bvs H5)
  obtain ⟨l5, hl5⟩ : ∃ l, l = bvs H5 := ⟨_, rfl⟩
  rw [← hl5] at L5 O5 ⊢
  clear hl5 hH5 hu5 hB5
  have hs5 := hB.size
  have b10 := Blk.new' w5 41 (zs8 32)
  have hBn : Below w5.heap.size w5 (w5.alloc (.cells (zs8 32).toArray 41)) := (Below.refl _ _).alloc (Nat.le_refl _) _
  obtain ⟨w6, hw6⟩ : ∃ x, x = w5.alloc (.cells (zs8 32).toArray 41) := ⟨_, rfl⟩
  go_wp2_with (first | (refine wp_new 41 rfl rfl zero25 ?_; refine wp_stop ?_))
  rw [← hw6] at b10 hBn ⊢
  have hB := hB.trans (hBn.mono hB.size)
  obtain ⟨g10, hg10⟩ : ∃ g, g = w5.heap.size := ⟨_, rfl⟩
  have hg : w.heap.size ≤ g10 := by
    rw [hg10]
    exact hs5
  rw [← hg10] at b10 ⊢
  clear hw6 hBn hg10
  refine wp_go ?_
  go_wp2_with (first | (refine wp_st 41 (.tmp 10) (.tmp 31) rfl rfl rfl (f := 0) rfl (l := l5) rfl b10 (by rw [L5.out]; simp [zs8]) (by rw [L5.out]; exact size25) O5.out ?_; intro w7 k10 G7; refine wp_stop ?_))
  have hB := hB.grown G7 hB.size (fun k hk => by injection hk with hk; omega)
  refine wp_go ?_
  go_wp2_with (fail)
  refine (Hbc.out _ (hv.below hB)).mono ?_
  rintro e w8 ⟨rfl, hB8⟩
  have hB := hB.trans (hB8.mono hB.size)
  go_wp2
  go_ret
  exact ⟨by simp, hB⟩
end Go.Proofs.YtmjpkdehkdpdpaaDoor
