/- K6: layer 5: wakes; the law KeysVerify. -/
import Derived.Test.YtcbojdbmfjhkiaaDoorK5
namespace Go.Proofs.YtcbojdbmfjhkiaaDoor
open Go.RowKit Go.V
set_option maxRecDepth 100000 in
set_option maxHeartbeats 1000000 in
theorem wakes5_any (w : World) (hK : KS w) :
    Calls Tryd.prog 7 #[] w fun e w' => e = .returned (.bool true) ∧ Below w.heap.size w w' := by
  have hl := len_ksig (List.replicate 32 0) 5 [] (by omega)
  have hs : ksS (List.replicate 32 0) 5 [] = ksigF (List.replicate 32 0) 5 [] := by unfold ksS; rw [if_pos (by omega)]; rfl
  have h0 : (ksigF (List.replicate 32 0) 5 [])[0]? = some 5 := by simp [ksigF]
  obtain ⟨s, hss⟩ : ∃ s, s = ksigF (List.replicate 32 0) 5 [] := ⟨_, rfl⟩
  rw [← hss] at hl hs h0
  have Hl := hid hl
  have Hs := hid hs
  have hE : Hid (ksE 5 = 0) := rfl
  clear hl hs hss
  go_enter Tryd.func7, Tryd.ntmps7
  go_wp2_with (refine wp_bld 23 [] rfl rfl [] rfl bld25 ?_)
  rw [zs8_bvs]
  refine (ksign_any (List.replicate 32 0) 5 _ [] nob _ hK (by simp) (by omega) (by omega) (Rd.nil _ _) (by simp)).mono ?_
  rintro e w1 ⟨v1, rfl, hr1, hB1⟩
  rw [hE.out]
  rw [Hs.out] at hr1
  obtain ⟨A1, c1, rfl⟩ := hr1.shape
  obtain ⟨g, off, rfl, _, hc⟩ := hr1.byteAt 0 (by rw [Hl.out]; omega)
  have hx : s[0]'(by rw [Hl.out]; omega) = 5 := by
    have := List.getElem?_eq_getElem (l := s) (i := 0) (by rw [Hl.out]; omega)
    rw [h0] at this
    injection this with this
    exact this.symm
  rw [hx, Nat.add_zero, show (((5 : UInt8).toNat : Nat) : Int) = 5 from rfl] at hc
  rw [Hl.out]
  clear hx h0
  go_wp2
  go_ret
  exact ⟨rfl, hB1⟩
set_option maxRecDepth 100000 in
set_option maxHeartbeats 2000000 in
theorem keysVerify_law (root : List UInt8) (tv sv : Value) (text sig : List UInt8) (F G : Nat → Prop) (w : World) (hK : KS w) (hr : root.length = 32) (ht : Rd w F tv (bys text)) (hs : Rd w G sv (bys sig)) :
    Calls Tryd.prog 4 #[.agg (bvs root).toArray, tv, sv] w fun e w' => e = .returned (.bool true) ∧ Below w.heap.size w w' := by
  obtain ⟨A, c, rfl⟩ := ht.shape
  obtain ⟨A2, c2, rfl⟩ := hs.shape
  have Hr := hid hr
  clear hr
  have hrd := Blk.new' w 23 (bvs root)
  have hB := (Below.refl w.heap.size w).alloc (Nat.le_refl _) (.cells (bvs root).toArray 23)
  by_cases h1 : 500 < text.length
  · go_enter Tryd.func4, Tryd.ntmps4
    go_wp2_with (fail)
    refine (wakes5_any _ (hK.below hB)).mono ?_
    rintro e w1 ⟨rfl, hB1⟩
    go_wp2
    go_ret
    exact ⟨rfl, hB.trans (hB1.mono hB.size)⟩
  by_cases h2 : 2000 < sig.length
  · go_enter Tryd.func4, Tryd.ntmps4
    go_wp2_with (fail)
    refine (wakes5_any _ (hK.below hB)).mono ?_
    rintro e w1 ⟨rfl, hB1⟩
    go_wp2
    go_ret
    exact ⟨rfl, hB.trans (hB1.mono hB.size)⟩
  go_enter Tryd.func4, Tryd.ntmps4
  go_wp2_with (fail)
  refine (wakes5_any _ (hK.below hB)).mono ?_
  rintro e w1 ⟨rfl, hB1⟩
  have hB1' := hB.trans (hB1.mono hB.size)
  have hrd1 := hrd.below hB1
  have hbs : ∀ W : World, (Instr.buildSlice 24 0 #[]).run Tryd.prog W = .ok (.slice (some ⟨W.heap.size, 0, none⟩) 0 0) (W.alloc (.cells #[] 5)) := fun W => by kernel_rfl
  have h0 : (w1.alloc (.cells #[] 5)).ownsRow w1.heap.size 5 1 (.slice (some ⟨w1.heap.size, 0, none⟩) 0 0) 0 [] := World.ownsRow_made w1 #[] 0 (Nat.le_refl _) (by simp [maxLen]) rfl
  have hal : Below w.heap.size w (w1.alloc (.cells #[] 5)) := hB1'.alloc hB1'.size _
  have hs1 := hs.below hal
  have hrd1a := hrd1.alloc (.cells #[] 5)
  have hrl := hrd1.lt
  go_wp2_with (with_reducible refine wp_at 24 rfl ?_)
  refine wp_on ?_
  refine wp_app (.tmp 22) (.tmp 23) slB rfl rfl rfl h0 rfl hs1.src (oneCell_bvs sig) (by simp only [maxLen]; omega) (by omega) (by simp) ?_
  intro v2 w2 ho2 hG2 hat2
  have hB2 := hal.grown hG2 hal.size (fun k hk => by have := (h0.lt k hk).1; have := hB1'.size; omega)
  have hrd2 := hrd1a.keep (hG2.block _ hrd1a.lt (fun e => by have := (h0.lt _ e.symm).1; omega))
  rw [List.nil_append, Nat.zero_add] at ho2
  obtain ⟨Ao, co, rfl⟩ := own_shape ho2
  have hr2 := Rd.of_own ho2
  have ht2 := ht.below hB2
  have hs2 := hs.below hB2
  go_wp2_with (with_reducible refine wp_at 26 rfl ?_)
  refine wp_on ?_
  refine wp_ld 23 (.tmp 3) rfl rfl rfl hrd2.whole und25 rfl (by rw [len_bvs, Hr.out]; exact size25) ?_
  go_wp2_with (fail)
  ((with_reducible refine (kverify_any root _ _ text sig _ _ _ (hK.below hB2) Hr.out ht2 hr2 (by omega)).mono ?_))
  rintro e w3 ⟨rfl, hB3⟩
  obtain ⟨vn, hvn⟩ : ∃ x, x = verN root text sig := ⟨_, rfl⟩
  obtain ⟨ve, hve⟩ : ∃ x, x = verE root text sig := ⟨_, rfl⟩
  rw [← hvn, ← hve]
  have HN := hid hvn
  have HE := hid hve
  clear hvn hve
  have hB3' := hB2.trans (hB3.mono hB2.size)
  have hrd3 := hrd2.below hB3
  have hr3 := hr2.below hB3
  have ht3 := ht.below hB3'
  have hs3 := hs.below hB3'
  go_wp2_with (with_reducible refine wp_at 33 rfl ?_)
  refine wp_on ?_
  refine wp_ld 23 (.tmp 3) rfl rfl rfl hrd3.whole und25 rfl (by rw [len_bvs, Hr.out]; exact size25) ?_
  go_wp2_with (fail)
  ((with_reducible refine (rverify_any root _ _ text sig _ _ _ Hr.out ht3 hs3 (by omega)).mono ?_))
  rintro e w4 ⟨rfl, hB4⟩
  rw [← HN.out, ← HE.out]
  have hB4' := hB3'.trans (hB4.mono hB3'.size)
  have hr4 := hr3.below hB4
  have hs4 := hs.below hB4'
  have e1 : (vn == vn) = true := beq_self_eq_true vn
  have e2 : (ve == ve) = true := beq_self_eq_true ve
  go_wp2_with (fail)
  ((with_reducible refine (same_b _ _ sig sig _ _ _ hr4 hs4).mono ?_))
  rintro e w5 ⟨rfl, hB5⟩
  rw [decide_eq_true rfl]
  go_wp2
  go_ret
  exact ⟨rfl, hB4'.trans (hB5.mono hB4'.size)⟩
end Go.Proofs.YtcbojdbmfjhkiaaDoor
