/- K7: layer 5: the law KeysSigns. -/
import Derived.Test.YtcbojdbmfjhkiaaDoorK6
namespace Go.Proofs.YtcbojdbmfjhkiaaDoor
open Go.RowKit Go.V
set_option maxRecDepth 100000 in
set_option maxHeartbeats 4000000 in
theorem keysSigns_law (seed : List UInt8) (k : Int) (tv : Value) (text : List UInt8) (F : Nat → Prop) (w : World) (hK : KS w) (hl : seed.length = 32) (k1 : -9223372036854775808 ≤ k) (k2 : k ≤ 9223372036854775807) (ht : Rd w F tv (bys text)) :
    Calls Tryd.prog 3 #[.agg (bvs seed).toArray, .int .i64 k, tv] w fun e w' => e = .returned (.bool true) ∧ Below w.heap.size w w' := by
  obtain ⟨A, c, rfl⟩ := ht.shape
  have Hl := hid hl
  clear hl
  have hsd := Blk.new' w 23 (bvs seed)
  have hB := (Below.refl w.heap.size w).alloc (Nat.le_refl _) (.cells (bvs seed).toArray 23)
  by_cases hg : 500 < text.length
  · go_enter Tryd.func3, Tryd.ntmps3
    go_wp2_with (fail)
    refine (wakes5_any _ (hK.below hB)).mono ?_
    rintro e w1 ⟨rfl, hB1⟩
    go_wp2
    go_ret
    exact ⟨rfl, hB.trans (hB1.mono hB.size)⟩
  obtain ⟨r, hr⟩ : ∃ r, r = rootF seed := ⟨_, rfl⟩
  have Hrl : Hid (r.length = 32) := by show _ = _; rw [hr]; exact len_root _
  have Hr := hid hr
  have hr14 : (treeF seed 7)[14]? = some r := by
    rw [hr]
    unfold rootF
    rw [List.getD_eq_getElem?_getD, List.getElem?_eq_getElem (by rw [tree_len]; omega)]
    rfl
  clear hr
  have hbs : ∀ W : World, (Instr.buildSlice 24 0 #[]).run Tryd.prog W = .ok (.slice (some ⟨W.heap.size, 0, none⟩) 0 0) (W.alloc (.cells #[] 5)) := fun W => by kernel_rfl
  have heq := eqH r r Hrl.out Hrl.out
  rw [beq_self_eq_true] at heq
  have HR14 := hid hr14
  clear hr14
  go_enter Tryd.func3, Tryd.ntmps3
  go_wp2_with (fail)
  refine (wakes5_any _ (hK.below hB)).mono ?_
  rintro e w1 ⟨rfl, hB1⟩
  have hB1' := hB.trans (hB1.mono hB.size)
  have hsd1 := hsd.below hB1
  go_wp2_with (with_reducible refine wp_at 18 rfl ?_)
  refine wp_on ?_
  refine wp_ld 23 (.tmp 3) rfl rfl rfl hsd1.whole und25 rfl (by rw [len_bvs, Hl.out]; exact size25) ?_
  go_wp2_with (fail)
  refine (rtree_any seed _ Hl.out).mono ?_
  rintro e w2 ⟨v2, rfl, ho2, hB2⟩
  have hB2' := hB1'.trans (hB2.mono hB1'.size)
  have hsd2 := hsd1.below hB2
  obtain ⟨gt, ct, rfl, _, _, _⟩ := ownW_range ho2 (by omega)
  go_wp2_with (with_reducible refine wp_at 20 rfl ?_)
  refine wp_on ?_
  refine wp_ld 23 (.tmp 3) rfl rfl rfl hsd2.whole und25 rfl (by rw [len_bvs, Hl.out]; exact size25) ?_
  go_wp2_with (fail)
  refine (root_any seed _ (hK.below hB2') Hl.out).mono ?_
  rintro e w3 ⟨rfl, hB3⟩
  rw [← Hr.out]
  have hB3' := hB2'.trans (hB3.mono hB2'.size)
  have hsd3 := hsd2.below hB3
  have ho3 := own_keepB ho2 hB3
  have hn3 := Blk.new' w3 23 (zs8 32)
  have hal := (Below.refl w3.heap.size w3).alloc (Nat.le_refl _) (.cells (zs8 32).toArray 23)
  have hB4 := hB3'.alloc hB3'.size (.cells (zs8 32).toArray 23)
  have hsl3 := hsd3.lt
  go_wp2_with (first | (refine wp_new 23 rfl rfl zero25 ?_) | (refine wp_st 23 (.tmp 8) (.tmp 21) rfl rfl rfl (f := 0) rfl (l := bvs r) rfl hn3 (by simp [zs8, len_bvs, Hrl.out]) (by rw [len_bvs, Hrl.out]; exact size25) (oneCell_bvs _) ?_; intro wq hb5 hG5; refine wp_stop ?_))
  rw [set25 _ Hrl.out] at hb5
  have hB35 : Below w3.heap.size w3 wq := hal.grown hG5 (by simp) (by intro k hk; injection hk with hk; omega)
  have hB5 := hB3'.trans (hB35.mono hB3'.size)
  have hsd5 := hsd3.below hB35
  have ho5 := own_keepB ho3 hB35
  obtain ⟨g8, hg8⟩ : ∃ g, g = w3.heap.size := ⟨_, rfl⟩
  obtain ⟨g3, hg3⟩ : ∃ g, g = w.heap.size := ⟨_, rfl⟩
  rw [← hg8] at hb5 ⊢
  rw [← hg3] at hsd5 ⊢
  clear hg8 hg3
  have hr14 := row32 (own_rg ho5) (tree_32 seed 7) 14 r HR14.out
  have hbl : gt < wq.heap.size := (ho5.lt gt rfl).2
  have HZ : Hid (∀ W, Ch nob wq W → W.rangeAt g8 0 (bvs r)) := fun W h => hb5.chAt (fun h => h) h
  have HT14 : Hid (∀ W, Ch nob wq W → W.rangeAt gt (0 + 14 * 32) (bvs r)) := fun W h j v hv => (World.cell?_of_block (h.block gt hbl (fun h => h))).trans (hr14 j v hv)
  have HZ0 := hid hb5
  have HS0 := hid hsd5
  clear hr14 hsd hsd1 hsd2 hsd3 hn3 hal hG5 hb5 hsd5 ho2 ho3 ho5
  refine wp_go ?_
  go_wp2
  refine wp_region_noPanic ?_
  refine wp_region_held_drew (S := Ch nob wq) (by kernel_rfl) ((Ch.refl _ _).drew) (fun hHeld => ?_)
  refine wpAnyH_take (i := 0) (oi := ⟨some 22, .load 23 (.tmp 8), _, _, _, none⟩) (v := _) rfl (by kernel_rfl) (by kernel_rfl) (by kernel_rfl) (fun _ _ _ h => h) (yieldsIf_load_mid (by rfl) 23 (.tmp 8) (by rfl) _ (0) (by rfl) _ _ (fun _ hs => HZ.out _ hs) und25 rfl (by rw [len_bvs, Hrl.out]; exact size25)) (by assumption) ?_
  try simp only [Act.put, List.setIfInBounds_toArray, List.set_cons_zero, List.set_cons_succ]
  refine wpAnyH_take (i := 1) (oi := ⟨some 23, _, _, _, _, none⟩) (v := ?_) rfl (by kernel_rfl) (by kernel_rfl) (by kernel_rfl) (fun _ _ _ h => h) (Or.inl ⟨by rfl, ?_⟩) (by assumption) ?_
  rotate_left
  · intro w hSw; go_simp; try with_reducible rfl
  try simp only [Act.put, List.setIfInBounds_toArray, List.set_cons_zero, List.set_cons_succ]
  refine wpAnyH_take (i := 2) (oi := ⟨some 24, _, _, _, _, none⟩) (v := ?_) rfl (by kernel_rfl) (by kernel_rfl) (by kernel_rfl) (fun _ _ _ h => h) (Or.inl ⟨by rfl, ?_⟩) (by assumption) ?_
  rotate_left
  · intro w hSw; go_simp; try with_reducible rfl
  try simp only [Act.put, List.setIfInBounds_toArray, List.set_cons_zero, List.set_cons_succ]
  refine wpAnyH_take (i := 3) (oi := ⟨some 25, _, _, _, _, none⟩) (v := ?_) rfl (by kernel_rfl) (by kernel_rfl) (by kernel_rfl) (fun _ _ _ h => h) (Or.inl ⟨by rfl, ?_⟩) (by assumption) ?_
  rotate_left
  · intro w hSw; go_simp; try with_reducible rfl
  try simp only [Act.put, List.setIfInBounds_toArray, List.set_cons_zero, List.set_cons_succ]
  refine wpAnyH_take (i := 4) (oi := ⟨some 26, _, _, _, _, none⟩) (v := ?_) rfl (by kernel_rfl) (by kernel_rfl) (by kernel_rfl) (fun _ _ _ h => h) (Or.inl ⟨by rfl, ?_⟩) (by assumption) ?_
  rotate_left
  · intro w hSw; go_simp; try with_reducible rfl
  try simp only [Act.put, List.setIfInBounds_toArray, List.set_cons_zero, List.set_cons_succ]
  refine wpAnyH_take (i := 5) (oi := ⟨some 27, _, _, _, _, none⟩) (v := _) rfl (by kernel_rfl) (by kernel_rfl) (by kernel_rfl) (fun _ _ _ h => h) (yi_ixa (by rfl) 26 (.tmp 23) (.tmp 26) (by rfl) (by rfl) (i := 14) (by rfl) Tryd.underlying26 (by omega) size25) (by assumption) ?_
  try simp only [Act.put, List.setIfInBounds_toArray, List.set_cons_zero, List.set_cons_succ]
  refine wpAnyH_take (i := 6) (oi := ⟨some 28, .load 23 (.tmp 27), _, _, _, none⟩) (v := _) rfl (by kernel_rfl) (by kernel_rfl) (by kernel_rfl) (fun _ _ _ h => h) (yieldsIf_load_mid (by rfl) 23 (.tmp 27) (by rfl) _ (0 + 14 * 32) (by rfl) _ _ (fun _ hs => HT14.out _ hs) und25 rfl (by rw [len_bvs, Hrl.out]; exact size25)) (by assumption) ?_
  try simp only [Act.put, List.setIfInBounds_toArray, List.set_cons_zero, List.set_cons_succ]
  refine wpAnyH_take (i := 7) (oi := ⟨some 29, _, _, _, _, none⟩) (v := ?_) rfl (by kernel_rfl) (by kernel_rfl) (by kernel_rfl) (fun _ _ _ h => h) (Or.inl ⟨by rfl, ?_⟩) (by assumption) ?_
  rotate_left
  · intro w hSw; go_simp; try with_reducible rfl
  try simp only [Act.put, List.setIfInBounds_toArray, List.set_cons_zero, List.set_cons_succ]
  refine wpAnyH_done (by kernel_rfl) ?_ _
  refine NoPanic.normal ?_
  go_wp2
  obtain ⟨wr, hwr⟩ : ∃ wr, wr = wq.drew := ⟨_, rfl⟩
  have hB6 := hB5.drew
  have hz6 := HZ0.out.drew
  have hs6 := HS0.out.drew
  rw [← hwr] at hB6 hz6 hs6 ⊢
  clear hwr HZ HT14 hHeld
  have ht6 := ht.below hB6
  have hK6 := hK.below hB6
  have HSD : Hid (∀ W, Ch nob wr W → W.rangeAt g3 0 (bvs seed)) := fun W h => hs6.chAt (fun h => h) h
  have HT : Hid (∀ W, Ch nob wr W → Rd W F (.slice A text.length c) (bys text)) := fun W h => ht6.ext h
  have HKS : Hid (∀ W, Ch nob wr W → KS W) := fun W h => hK6.below h.below
  have HZ6 := hid hz6
  have HS6 := hid hs6
  clear hz6 hs6 ht6 hK6
  refine wp_region_noPanic ?_
  refine wp_region_held_drew (S := Ch nob wr) (by kernel_rfl) ((Ch.refl _ _).drew) (fun hHeld => ?_)
  refine wpAnyH_take (i := 0) (oi := ⟨some 31, .load 23 (.tmp 3), _, _, _, none⟩) (v := _) rfl (by kernel_rfl) (by kernel_rfl) (by kernel_rfl) (fun _ _ _ h => h) (yieldsIf_load_mid (by rfl) 23 (.tmp 3) (by rfl) _ (0) (by rfl) _ _ (fun _ hs => HSD.out _ hs) und25 rfl (by rw [len_bvs, Hl.out]; exact size25)) (by assumption) ?_
  try simp only [Act.put, List.setIfInBounds_toArray, List.set_cons_zero, List.set_cons_succ]
  refine wpAnyH_take (i := 1) (oi := ⟨some 32, _, _, _, _, none⟩) (v := ?_) rfl (by kernel_rfl) (by kernel_rfl) (by kernel_rfl) (fun _ _ _ h => h) (Or.inl ⟨by rfl, ?_⟩) (by assumption) ?_
  rotate_left
  · intro w hSw; go_simp; try with_reducible rfl
  try simp only [Act.put, List.setIfInBounds_toArray, List.set_cons_zero, List.set_cons_succ]
  refine wpAnyH_take (i := 3) (oi := ⟨some 34, _, _, _, _, none⟩) (v := ?_) rfl (by kernel_rfl) (by kernel_rfl) (by kernel_rfl) (fun _ _ _ h => h) (Or.inl ⟨by rfl, ?_⟩) (by assumption) ?_
  rotate_left
  · intro w hSw; go_simp; try with_reducible rfl
  try simp only [Act.put, List.setIfInBounds_toArray, List.set_cons_zero, List.set_cons_succ]
  refine wpAnyH_ready (rs := [2]) (by kernel_rfl) (by simp) ?_
  refine AllReadyH.cons (o := ⟨some 33, .buildSlice _ _ _, _, _, _, none⟩) rfl (fun K hK => ?_) AllReadyH.nil
  refine step_bs0 24 5 (by rfl) (by rfl) hbs ?_
  intro v5 w5 h5 hB5
  have hz5 := hHeld.size
  have h5 := own_base (b2 := wr.heap.size) h5 (by have := hz5; simp at this; omega)
  refine hK.out _ _ (hHeld.belowG hB5) (fun hHeld => ?_)
  clear hK K
  try simp only [Act.put, List.setIfInBounds_toArray, List.set_cons_zero, List.set_cons_succ]
  refine wpAnyH_ready (rs := [4]) (by kernel_rfl) (by simp) ?_
  refine AllReadyH.cons (o := ⟨some 35, _, _, _, _, none⟩) rfl (fun K hK => ?_) AllReadyH.nil
  have ht7 := HT.out _ hHeld
  have hzz := hHeld.size
  refine step_app (.tmp 33) (.tmp 34) slB (by rfl) (by rfl) (by rfl) h5 (by rfl) ht7.src (oneCell_bvs text) (by simp only [maxLen]; omega) (by omega) (by simpa using hzz) ?_
  intro v7 w7 h7 hG7
  rw [List.nil_append, Nat.zero_add] at h7
  have hr7 := Rd.of_own h7
  obtain ⟨A7, c7, rfl⟩ := own_shape h7
  refine hK.out _ _ (hHeld.grow hG7 (fun k hk => .inr ((h5.lt k hk).1))) (fun hHeld => ?_)
  clear hK K
  try simp only [Act.put, List.setIfInBounds_toArray, List.set_cons_zero, List.set_cons_succ]
  refine wpAnyH_ready (rs := [5]) (by kernel_rfl) (by simp) ?_
  refine AllReadyH.cons (o := ⟨some 36, _, _, _, _, none⟩) rfl (fun K hK => ?_) AllReadyH.nil
  go_simp
  refine (ksign_any seed k _ text _ _ (HKS.out _ hHeld) Hl.out k1 k2 hr7 (by omega)).mono ?_
  rintro e' w8 ⟨v8, rfl, hr8, hB8⟩
  have hC8 := hHeld.belowG hB8
  refine hK.out _ _ (hC8) (fun hHeld => ?_)
  clear hK K
  try simp only [Act.put, List.setIfInBounds_toArray, List.set_cons_zero, List.set_cons_succ]
  refine wpAnyH_take (i := 6) (oi := ⟨some 30, _, _, _, _, none⟩) (v := ?_) rfl (by kernel_rfl) (by kernel_rfl) (by kernel_rfl) (fun _ _ _ h => h) (Or.inl ⟨by rfl, ?_⟩) (by assumption) ?_
  rotate_left
  · intro w hSw; go_simp; try with_reducible rfl
  try simp only [Act.put, List.setIfInBounds_toArray, List.set_cons_zero, List.set_cons_succ]
  refine wpAnyH_take (i := 7) (oi := ⟨some 37, _, _, _, _, none⟩) (v := ?_) rfl (by kernel_rfl) (by kernel_rfl) (by kernel_rfl) (fun _ _ _ h => h) (Or.inl ⟨by rfl, ?_⟩) (by assumption) ?_
  rotate_left
  · intro w hSw; go_simp; try with_reducible rfl
  try simp only [Act.put, List.setIfInBounds_toArray, List.set_cons_zero, List.set_cons_succ]
  refine wpAnyH_take (i := 8) (oi := ⟨some 38, _, _, _, _, none⟩) (v := ?_) rfl (by kernel_rfl) (by kernel_rfl) (by kernel_rfl) (fun _ _ _ h => h) (Or.inl ⟨by rfl, ?_⟩) (by assumption) ?_
  rotate_left
  · intro w hSw; go_simp; try with_reducible rfl
  try simp only [Act.put, List.setIfInBounds_toArray, List.set_cons_zero, List.set_cons_succ]
  refine wpAnyH_take (i := 9) (oi := ⟨some 9, _, _, _, _, none⟩) (v := ?_) rfl (by kernel_rfl) (by kernel_rfl) (by kernel_rfl) (fun _ _ _ h => h) (Or.inl ⟨by rfl, ?_⟩) (by assumption) ?_
  rotate_left
  · intro w hSw; go_simp; try with_reducible rfl
  try simp only [Act.put, List.setIfInBounds_toArray, List.set_cons_zero, List.set_cons_succ]
  refine wpAnyH_take (i := 10) (oi := ⟨some 10, _, _, _, _, none⟩) (v := ?_) rfl (by kernel_rfl) (by kernel_rfl) (by kernel_rfl) (fun _ _ _ h => h) (Or.inl ⟨by rfl, ?_⟩) (by assumption) ?_
  rotate_left
  · intro w hSw; go_simp; try with_reducible rfl
  try simp only [Act.put, List.setIfInBounds_toArray, List.set_cons_zero, List.set_cons_succ]
  refine wpAnyH_done (by kernel_rfl) ?_ _
  refine NoPanic.normal ?_
  have hB8' := hB6.trans (hC8.below.mono hB6.size)
  by_cases hk : 0 ≤ k ∧ k ≤ 7
  · have hE : Hid (ksE k = 0) := if_pos hk
    have hS : Hid (ksS seed k text = ksigF seed k.toNat text) := if_pos hk
    obtain ⟨ka, kb⟩ := hk
    obtain ⟨K, rfl⟩ := Int.eq_ofNat_of_zero_le ka
    have hK7 : K ≤ 7 := by omega
    rw [Int.toNat_natCast] at hS
    obtain ⟨s, hs⟩ : ∃ s, s = ksigF seed K text := ⟨_, rfl⟩
    have Hsl : Hid (s.length = 657) := by show _ = _; rw [hs]; exact len_ksig _ _ _ hK7
    have hv := ver_ksig seed K text hK7
    rw [← hs, ← Hr.out] at hv
    have HV := hid hv
    rw [← hs] at hS
    have Hs := hid hs
    rw [hS.out] at hr8
    rw [hE.out]
    clear hv hs ka
    obtain ⟨A8, c8, rfl⟩ := hr8.shape
    have hz8 := HZ6.out.below hC8.below
    have hs8 := HS6.out.below hC8.below
    have ht8 := ht.below hB8'
    go_wp2_with (with_reducible refine wp_at 53 rfl ?_)
    refine wp_on ?_
    refine wp_ld 23 (.tmp 8) rfl rfl rfl hz8.whole und25 rfl (by rw [len_bvs, Hrl.out]; exact size25) ?_
    go_wp2_with (fail)
    ((with_reducible refine (kverify_any r _ _ text s _ _ _ (hK.below hB8') Hrl.out ht8 hr8 (by omega)).mono ?_))
    rintro e w9 ⟨rfl, hB9⟩
    rw [HV.out.1, HV.out.2]
    have hB9' := hB8'.trans (hB9.mono hB8'.size)
    have hs9 := hs8.below hB9
    have hr9 := hr8.below hB9
    have ht9 := ht.below hB9'
    go_wp2_with (with_reducible refine wp_at 63 rfl ?_)
    refine wp_on ?_
    refine wp_ldg 23 (.tmp 3) (by rfl) rfl rfl hs9.whole und25 rfl (by rw [len_bvs, Hl.out]; exact size25) ?_
    go_wp2_with (fail)
    ((with_reducible refine (rksign_any seed K _ text _ _ Hl.out hK7 ht9 (by omega)).mono ?_))
    rintro e w10 ⟨v10, rfl, hn10⟩
    have hB10 := hB9'.trans (hn10.2.mono hB9'.size)
    have hr10 := hn10.rd
    have hB10a := hn10.2
    rw [← Hs.out] at hr10
    have hkk : ((K : Int) == (K : Int)) = true := beq_self_eq_true _
    go_wp2_with (fail)
    ((with_reducible refine (same_b _ _ s s _ _ _ (hr9.below hB10a) hr10).mono ?_))
    rintro e w11 ⟨rfl, hB11⟩
    rw [decide_eq_true rfl]
    go_wp2
    go_ret
    exact ⟨rfl, hB10.trans (hB11.mono hB10.size)⟩
  · have hE : Hid (ksE k = 3) := if_neg hk
    have hS : Hid (ksS seed k text = []) := if_neg hk
    rw [hS.out] at hr8
    rw [hE.out]
    obtain ⟨A8, c8, rfl⟩ := hr8.shape
    rw [List.length_nil]
    by_cases hneg : k < 0
    · clear hk
      go_wp2
      go_ret
      exact ⟨rfl, hB8'⟩
    · have hpos : 7 < k := by omega
      clear hk
      go_wp2
      go_ret
      exact ⟨rfl, hB8'⟩
end Go.Proofs.YtcbojdbmfjhkiaaDoor
