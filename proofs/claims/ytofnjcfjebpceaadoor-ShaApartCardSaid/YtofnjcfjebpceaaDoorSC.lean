/- SL2: the law ShaChain. -/
import Derived.Test.YtofnjcfjebpceaaDoorSL
namespace Go.Proofs.YtofnjcfjebpceaaDoor
open Go.RowKit Go.V

theorem ch_add (h : List UInt8) (a : Nat) : ∀ b, chF (chF h a) b = chF h (a + b)
  | 0 => rfl
  | b + 1 => by rw [chF, ch_add h a b]; rfl
theorem ch_law (h : List UInt8) (n m : Int) (hn : n ≤ 200) (hm : m ≤ 200) : chF (chF h (min n 4096).toNat) (min m 4096).toNat = chF h (min (max n 0 + max m 0) 4096).toNat := by
  rw [ch_add]
  congr 1
  omega
/-- what stays while the law asks -/
def C2 (x h : List UInt8) (b7 b3 : Nat) (w w' : World) : Prop := Blk w' b7 25 (bvs x) ∧ Blk w' b3 25 (bvs h) ∧ KS w' ∧ Below w.heap.size w w'
theorem C2.below {x h : List UInt8} {b7 b3 : Nat} {w w' w'' : World} (H : C2 x h b7 b3 w w') (hB : Below w'.heap.size w' w'') : C2 x h b7 b3 w w'' := ⟨H.1.below hB, H.2.1.below hB, H.2.2.1.below hB, H.2.2.2.trans (hB.mono H.2.2.2.size)⟩
theorem C2.drew {x h : List UInt8} {b7 b3 : Nat} {w w' : World} (H : C2 x h b7 b3 w w') : C2 x h b7 b3 w w'.drew := ⟨H.1.drew, H.2.1.drew, H.2.2.1, H.2.2.2.drew⟩
theorem C2.belowR {x h : List UInt8} {b7 b3 : Nat} {w w' w'' : World} (hB : Below w'.heap.size w' w'') (H : C2 x h b7 b3 w w') : w''.rangeAt b7 0 (bvs x) ∧ w''.rangeAt b3 0 (bvs h) ∧ C2 x h b7 b3 w w'' := ⟨(H.below hB).1.whole, (H.below hB).2.1.whole, H.below hB⟩
theorem C2.sameR {x h : List UInt8} {b7 b3 : Nat} {w w' : World} (H : C2 x h b7 b3 w w') : w'.rangeAt b7 0 (bvs x) ∧ w'.rangeAt b3 0 (bvs h) ∧ C2 x h b7 b3 w w' := ⟨H.1.whole, H.2.1.whole, H⟩
theorem C2.drewR {x h : List UInt8} {b7 b3 : Nat} {w w' : World} (H : C2 x h b7 b3 w w') : w'.drew.rangeAt b7 0 (bvs x) ∧ w'.drew.rangeAt b3 0 (bvs h) ∧ C2 x h b7 b3 w w'.drew := H.drew.sameR
theorem C2.r7 {x h : List UInt8} {b7 b3 : Nat} {w w' : World} (H : C2 x h b7 b3 w w') : w'.rangeAt b7 0 (bvs x) := H.1.whole
theorem C2.r3 {x h : List UInt8} {b7 b3 : Nat} {w w' : World} (H : C2 x h b7 b3 w w') : w'.rangeAt b3 0 (bvs h) := H.2.1.whole
theorem C2.ks {x h : List UInt8} {b7 b3 : Nat} {w w' : World} (H : C2 x h b7 b3 w w') : KS w' := H.2.2.1

set_option maxRecDepth 100000 in
set_option maxHeartbeats 1000000 in
theorem shaChain_law (h : List UInt8) (n m : Int) (w : World) (hK : KS w) (hl : h.length = 32) (n1 : -9223372036854775808 ≤ n) (n2 : n ≤ 9223372036854775807) (m1 : -9223372036854775808 ≤ m) (m2 : m ≤ 9223372036854775807) :
    Calls Tryd.prog 5 #[.agg (bvs h).toArray, .int .i64 n, .int .i64 m] w fun e w' => e = .returned (.bool true) ∧ Below w.heap.size w w' := by
  have Hl := hid hl
  clear hl
  have b3 := Blk.new' w 25 (bvs h)
  have hB0 : Below w.heap.size w (w.alloc (.cells (bvs h).toArray 25)) := (Below.refl _ _).alloc (Nat.le_refl _) _
  by_cases hg : 200 < n
  · go_enter Tryd.func5, Tryd.ntmps5
    go_wp2_with (fail)
    refine (wakes_any _ (hK.below hB0)).mono ?_
    rintro e w1 ⟨rfl, hB1⟩
    go_wp2
    go_ret
    exact ⟨rfl, hB0.trans (hB1.mono hB0.size)⟩
  · by_cases hg2 : 200 < m
    · go_enter Tryd.func5, Tryd.ntmps5
      go_wp2_with (fail)
      refine (wakes_any _ (hK.below hB0)).mono ?_
      rintro e w1 ⟨rfl, hB1⟩
      go_wp2
      go_ret
      exact ⟨rfl, hB0.trans (hB1.mono hB0.size)⟩
    · have Hlaw := hid (ch_law h n m (by omega) (by omega))
      go_enter Tryd.func5, Tryd.ntmps5
      go_wp2_with (fail)
      refine (wakes_any _ (hK.below hB0)).mono ?_
      rintro e w1 ⟨rfl, hB1⟩
      have hB1' := hB0.trans (hB1.mono hB0.size)
      have b31 := b3.below hB1
      go_wp2_with (refine wp_ld 25 (.tmp 3) rfl rfl rfl b31.whole und25 rfl (by rw [len_bvs, Hl.out]; exact size25) ?_)
      refine (chain_any h n _ (hK.below hB1') Hl.out n1 n2).mono ?_
      rintro e w2 ⟨rfl, hB2⟩
      have hB2' := hB1'.trans (hB2.mono hB1'.size)
      have b32 := b31.below hB2
      obtain ⟨x, hx⟩ : ∃ x, x = chF h (min n 4096).toNat := ⟨_, rfl⟩
      have hxl : Hid (x.length = 32) := by show _ = _; rw [hx]; exact len_ch h Hl.out _
      have Hx := hid hx
      rw [← hx]
      rw [← hx] at Hlaw
      clear hx
      have hz := Blk.new' w2 25 (zs8 32)
      have hB3 : Below w.heap.size w (w2.alloc (.cells (zs8 32).toArray 25)) := hB2'.alloc hB2'.size _
      go_wp2_with (first | (refine wp_new 25 rfl rfl zero25 ?_) | (refine wp_st 25 (.tmp 7) (.tmp 18) rfl rfl rfl (f := 0) rfl (l := bvs x) rfl hz (by simp [zs8, len_bvs, hxl.out]) (by rw [len_bvs, hxl.out]; exact size25) (oneCell_bvs _) ?_; intro w4 hb4 hG4; refine wp_stop ?_))
      rw [set25 _ hxl.out] at hb4
      have hB4 := hB3.grown hG4 hB3.size (by intro k hk; injection hk with hk; have := hB2'.size; omega)
      have b34 := (b32.alloc (.cells (zs8 32).toArray 25)).keep (hG4.block _ (by have := b32.lt; simp; omega) (by intro e; injection e with e; have := b32.lt; omega))
      have hks : KS w4 := hK.below hB4
      have hC : C2 x h w2.heap.size w.heap.size w w4 := ⟨hb4, b34, hks, hB4⟩
      obtain ⟨b7, hb7⟩ : ∃ b7, b7 = w2.heap.size := ⟨_, rfl⟩
      obtain ⟨g3, hg3⟩ : ∃ g3, g3 = w.heap.size := ⟨_, rfl⟩
      clear hz hb4 hG4 b34 hks hB4 hB3 b32 b31 b3 hB0 hB1 hB1' hB2 hB2'
      refine wp_go ?_
      go_wp2
      rw [← hb7, ← hg3] at hC
      rw [← hb7, ← hg3]
      clear hb7 hg3
      have heq := eqB x hxl.out
      obtain ⟨y, hy⟩ : ∃ y, y = chF x (min m 4096).toNat := ⟨_, rfl⟩
      have hyl : Hid (y.length = 32) := by show _ = _; rw [hy]; exact len_ch x hxl.out _
      have heq2 := eqB y hyl.out
      have Hy := hid hy
      have Hy2 : Hid (y = chF h (min (max n 0 + max m 0) 4096).toNat) := by show _ = _; rw [hy]; exact Hlaw.out
      clear hy
      have hwr : IntKind.i64.wrap (max n 0 + max m 0) = max n 0 + max m 0 := IntWalk.i64_in _ (by omega)
      refine wp_region_noPanic ?_
      refine wp_region_held_drew (S := C2 x h b7 g3 w) (by kernel_rfl) hC.drew (fun hHeld => ?_)
      refine wpAnyH_take (i := 0) (oi := ⟨some 19, .load 25 (.tmp 7), _, _, _, none⟩) (v := _) rfl (by kernel_rfl) (by kernel_rfl) (by kernel_rfl) (fun _ _ _ h => h) (yieldsIf_load_mid (by rfl) 25 (.tmp 7) (by rfl) _ 0 (by rfl) _ _ (fun _ hs => C2.r7 hs) und25 rfl (by rw [len_bvs, hxl.out]; exact size25)) (by assumption) ?_
      try simp only [Act.put, List.setIfInBounds_toArray, List.set_cons_zero, List.set_cons_succ]
      refine wpAnyH_take (i := 1) (oi := ⟨some 20, .load 25 (.tmp 3), _, _, _, none⟩) (v := _) rfl (by kernel_rfl) (by kernel_rfl) (by kernel_rfl) (fun _ _ _ h => h) (yieldsIf_load_mid (by rfl) 25 (.tmp 3) (by rfl) _ 0 (by rfl) _ _ (fun _ hs => C2.r3 hs) und25 rfl (by rw [len_bvs, Hl.out]; exact size25)) (by assumption) ?_
      try simp only [Act.put, List.setIfInBounds_toArray, List.set_cons_zero, List.set_cons_succ]
      refine wpAnyH_take (i := 2) (oi := ⟨some 21, .move (.tmp 1), _, _, _, none⟩) (v := ?_) rfl (by kernel_rfl) (by kernel_rfl) (by kernel_rfl) (fun _ _ _ h => h) (Or.inl ⟨by rfl, ?_⟩) (by assumption) ?_
      rotate_left
      · intro w hSw; go_simp; try with_reducible rfl
      try simp only [Act.put, List.setIfInBounds_toArray, List.set_cons_zero, List.set_cons_succ]
      refine wpAnyH_ready (rs := [3]) (by kernel_rfl) (by simp) ?_
      refine AllReadyH.cons (o := ⟨some 22, _, _, _, _, none⟩) rfl (fun K hK => ?_) AllReadyH.nil
      go_simp
      refine (ref_chain_any h n _ Hl.out n1 n2).mono ?_
      rintro e' w5 ⟨rfl, hB5⟩
      rw [← Hx.out]
      have hC5 := hHeld.below hB5
      refine hK.out _ _ hC5 (fun hHeld => ?_)
      clear hK K
      try simp only [Act.put, List.setIfInBounds_toArray, List.set_cons_zero, List.set_cons_succ]
      refine wpAnyH_take (i := 4) (oi := ⟨some 23, _, _, _, _, none⟩) (v := ?_) rfl (by kernel_rfl) (by kernel_rfl) (by kernel_rfl) (fun _ _ _ h => h) (Or.inl ⟨by rfl, ?_⟩) (by assumption) ?_
      rotate_left
      · intro w hSw; go_simp; try with_reducible rfl
      try simp only [Act.put, List.setIfInBounds_toArray, List.set_cons_zero, List.set_cons_succ]
      refine wpAnyH_take (i := 5) (oi := ⟨some 24, .move (.tmp 23), _, _, _, none⟩) (v := ?_) rfl (by kernel_rfl) (by kernel_rfl) (by kernel_rfl) (fun _ _ _ h => h) (Or.inl ⟨by rfl, ?_⟩) (by assumption) ?_
      rotate_left
      · intro w hSw; go_simp; try with_reducible rfl
      try simp only [Act.put, List.setIfInBounds_toArray, List.set_cons_zero, List.set_cons_succ]
      refine wpAnyH_take (i := 6) (oi := ⟨some 25, .load 25 (.tmp 7), _, _, _, some (5, true)⟩) (v := _) rfl (by kernel_rfl) (by kernel_rfl) (by kernel_rfl) (fun _ _ _ h => h) (yieldsIf_load_mid (by rfl) 25 (.tmp 7) (by rfl) _ 0 (by rfl) _ _ (fun _ hs => C2.r7 hs) und25 rfl (by rw [len_bvs, hxl.out]; exact size25)) (by assumption) ?_
      try simp only [Act.put, List.setIfInBounds_toArray, List.set_cons_zero, List.set_cons_succ]
      refine wpAnyH_take (i := 7) (oi := ⟨some 26, .move (.tmp 2), _, _, _, some (5, true)⟩) (v := ?_) rfl (by kernel_rfl) (by kernel_rfl) (by kernel_rfl) (fun _ _ _ h => h) (Or.inl ⟨by rfl, ?_⟩) (by assumption) ?_
      rotate_left
      · intro w hSw; go_simp; try with_reducible rfl
      try simp only [Act.put, List.setIfInBounds_toArray, List.set_cons_zero, List.set_cons_succ]
      refine wpAnyH_take (i := 9) (oi := ⟨some 28, .load 25 (.tmp 3), _, _, _, some (5, true)⟩) (v := _) rfl (by kernel_rfl) (by kernel_rfl) (by kernel_rfl) (fun _ _ _ h => h) (yieldsIf_load_mid (by rfl) 25 (.tmp 3) (by rfl) _ 0 (by rfl) _ _ (fun _ hs => C2.r3 hs) und25 rfl (by rw [len_bvs, Hl.out]; exact size25)) (by assumption) ?_
      try simp only [Act.put, List.setIfInBounds_toArray, List.set_cons_zero, List.set_cons_succ]
      refine wpAnyH_take (i := 10) (oi := ⟨some 29, .move (.tmp 1), _, _, _, some (5, true)⟩) (v := ?_) rfl (by kernel_rfl) (by kernel_rfl) (by kernel_rfl) (fun _ _ _ h => h) (Or.inl ⟨by rfl, ?_⟩) (by assumption) ?_
      rotate_left
      · intro w hSw; go_simp; try with_reducible rfl
      try simp only [Act.put, List.setIfInBounds_toArray, List.set_cons_zero, List.set_cons_succ]
      refine wpAnyH_take (i := 12) (oi := ⟨some 31, .move (.tmp 2), _, _, _, some (5, true)⟩) (v := ?_) rfl (by kernel_rfl) (by kernel_rfl) (by kernel_rfl) (fun _ _ _ h => h) (Or.inl ⟨by rfl, ?_⟩) (by assumption) ?_
      rotate_left
      · intro w hSw; go_simp; try with_reducible rfl
      try simp only [Act.put, List.setIfInBounds_toArray, List.set_cons_zero, List.set_cons_succ]
      refine wpAnyH_take (i := 11) (oi := ⟨some 30, _, _, _, _, some (5, true)⟩) (v := ?_) rfl (by kernel_rfl) (by kernel_rfl) (by kernel_rfl) (fun _ _ _ h => h) (Or.inl ⟨by rfl, ?_⟩) (by assumption) ?_
      rotate_left
      · intro w hSw; go_simp; try with_reducible rfl
      try simp only [Act.put, List.setIfInBounds_toArray, List.set_cons_zero, List.set_cons_succ]
      refine wpAnyH_take (i := 13) (oi := ⟨some 32, _, _, _, _, some (5, true)⟩) (v := ?_) rfl (by kernel_rfl) (by kernel_rfl) (by kernel_rfl) (fun _ _ _ h => h) (Or.inl ⟨by rfl, ?_⟩) (by assumption) ?_
      rotate_left
      · intro w hSw; go_simp; try with_reducible rfl
      try simp only [Act.put, List.setIfInBounds_toArray, List.set_cons_zero, List.set_cons_succ]
      refine wpAnyH_take (i := 14) (oi := ⟨some 33, _, _, _, _, some (5, true)⟩) (v := ?_) rfl (by kernel_rfl) (by kernel_rfl) (by kernel_rfl) (fun _ _ _ h => h) (Or.inl ⟨by rfl, ?_⟩) (by assumption) ?_
      rotate_left
      · intro w hSw; go_simp; try with_reducible rfl
      try simp only [Act.put, List.setIfInBounds_toArray, List.set_cons_zero, List.set_cons_succ]
      refine wpAnyH_ready (rs := [8]) (by kernel_rfl) (by simp) ?_
      refine AllReadyH.cons (o := ⟨some 27, _, _, _, _, some (5, true)⟩) rfl (fun K hK => ?_) AllReadyH.nil
      go_simp
      refine (chain_any x m _ hC5.ks hxl.out m1 m2).mono ?_
      rintro e' w6 ⟨rfl, hB6⟩
      rw [← Hy.out]
      have hC6 := hC5.below hB6
      refine hK.out _ _ hC6 (fun hHeld => ?_)
      clear hK K
      try simp only [Act.put, List.setIfInBounds_toArray, List.set_cons_zero, List.set_cons_succ]
      refine wpAnyH_ready (rs := [15]) (by kernel_rfl) (by simp) ?_
      refine AllReadyH.cons (o := ⟨some 34, _, _, _, _, some (5, true)⟩) rfl (fun K hK => ?_) AllReadyH.nil
      go_simp
      ((with_reducible refine (chain_any h (max n 0 + max m 0) _ hC6.ks Hl.out (by omega) (by omega)).mono ?_))
      rintro e' w7 ⟨rfl, hB7⟩
      rw [← Hy2.out]
      have hC7 := hC6.below hB7
      refine hK.out _ _ hC7 (fun hHeld => ?_)
      clear hK K
      try simp only [Act.put, List.setIfInBounds_toArray, List.set_cons_zero, List.set_cons_succ]
      refine wpAnyH_take (i := 16) (oi := ⟨some 35, _, _, _, _, some (5, true)⟩) (v := ?_) rfl (by kernel_rfl) (by kernel_rfl) (by kernel_rfl) (fun _ _ _ h => h) (Or.inl ⟨by rfl, ?_⟩) (by assumption) ?_
      rotate_left
      · intro w hSw; go_simp; try with_reducible rfl
      try simp only [Act.put, List.setIfInBounds_toArray, List.set_cons_zero, List.set_cons_succ]
      refine wpAnyH_take (i := 17) (oi := ⟨some 36, _, _, _, _, none⟩) (v := ?_) rfl (by kernel_rfl) (by kernel_rfl) (by kernel_rfl) (fun _ _ _ h => h) (Or.inl ⟨by rfl, ?_⟩) (by assumption) ?_
      rotate_left
      · intro w hSw; go_simp; try with_reducible rfl
      try simp only [Act.put, List.setIfInBounds_toArray, List.set_cons_zero, List.set_cons_succ]
      refine wpAnyH_take (i := 18) (oi := ⟨some 6, .assign (.tmp 36), _, _, _, none⟩) (v := ?_) rfl (by kernel_rfl) (by kernel_rfl) (by kernel_rfl) (fun _ _ _ h => h) (Or.inl ⟨by rfl, ?_⟩) (by assumption) ?_
      rotate_left
      · intro w hSw; go_simp; try with_reducible rfl
      try simp only [Act.put, List.setIfInBounds_toArray, List.set_cons_zero, List.set_cons_succ]
      refine wpAnyH_done (by kernel_rfl) ?_ _
      refine NoPanic.normal ?_
      go_wp2
      go_ret
      exact ⟨rfl, hC7.2.2.2⟩
end Go.Proofs.YtofnjcfjebpceaaDoor
