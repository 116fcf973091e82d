/- T7: layer 3: the laws MacTag and MacCheck. -/
import Derived.Test.YtlehdpoedmaghaaDoorT6
namespace Go.Proofs.YtlehdpoedmaghaaDoor
open Go.RowKit Go.V
set_option maxRecDepth 100000 in
set_option maxHeartbeats 2000000 in
theorem macTag_law (kv tv : Value) (key text : List UInt8) (F G : Nat → Prop) (w : World) (hK : KS w) (hk : Rd w F kv (bys key)) (ht : Rd w G tv (bys text)) :
    Calls Tryd.prog 3 #[kv, tv] w fun e w' => e = .returned (.bool true) ∧ Below w.heap.size w w' := by
  obtain ⟨A, c, rfl⟩ := hk.shape
  obtain ⟨A2, c2, rfl⟩ := ht.shape
  by_cases h1 : 1000 < key.length
  · go_enter Tryd.func3, Tryd.ntmps3
    go_wp2_with (fail)
    refine (wakes_any _ hK).mono ?_
    rintro e w1 ⟨rfl, hB1⟩
    go_wp2
    go_ret
    exact ⟨rfl, hB1⟩
  by_cases h2 : 2000 < text.length
  · go_enter Tryd.func3, Tryd.ntmps3
    go_wp2_with (fail)
    refine (wakes_any _ hK).mono ?_
    rintro e w1 ⟨rfl, hB1⟩
    go_wp2
    go_ret
    exact ⟨rfl, hB1⟩
  go_enter Tryd.func3, Tryd.ntmps3
  go_wp2_with (fail)
  refine (wakes_any _ hK).mono ?_
  rintro e w1 ⟨rfl, hB1⟩
  have hbs : ∀ W : World, (Instr.buildSlice 22 0 #[]).run Tryd.prog W = .ok (.slice (some ⟨W.heap.size, 0, none⟩) 0 0) (W.alloc (.cells #[] 5)) := fun W => by kernel_rfl
  have h0 : (w1.alloc (.cells #[] 5)).ownsRow w1.heap.size 5 1 (.slice (some ⟨w1.heap.size, 0, none⟩) 0 0) 0 [] := World.ownsRow_made w1 #[] 0 (Nat.le_refl _) (by simp [maxLen]) rfl
  have hal : Below w.heap.size w (w1.alloc (.cells #[] 5)) := hB1.alloc hB1.size _
  have hk1 := hk.below hal
  have ht1 := ht.below hal
  go_wp2_with (refine wp_app (.tmp 18) (.tmp 19) slB rfl rfl rfl h0 rfl hk1.src (oneCell_bvs key) (by simp only [maxLen]; omega) (by omega) (by simp) ?_; intro v2 w2 ho2 hG2 hat2; refine wp_stop ?_)
  have hB2 := hal.grown hG2 hal.size (fun k hk => by have := (h0.lt k hk).1; have := hB1.size; omega)
  rw [List.nil_append, Nat.zero_add] at ho2
  have hs2 := hB2.size
  have h02 : (w2.alloc (.cells #[] 5)).ownsRow w2.heap.size 5 1 (.slice (some ⟨w2.heap.size, 0, none⟩) 0 0) 0 [] := World.ownsRow_made w2 #[] 0 (Nat.le_refl _) (by simp [maxLen]) rfl
  have hal2 : Below w.heap.size w (w2.alloc (.cells #[] 5)) := hB2.alloc hB2.size _
  have ht2 := ht.below hal2
  have hk2 := ((Rd.of_own ho2).weak (F' := fun b => b < w2.heap.size) (fun b hb _ => hb)).below ((Below.refl _ _).alloc (Nat.le_refl _) (.cells #[] 5))
  clear hal hk1 ht1 h0
  refine wp_go ?_
  go_wp2_with (refine wp_app (.tmp 21) (.tmp 22) slB rfl rfl rfl h02 rfl ht2.src (oneCell_bvs text) (by simp only [maxLen]; omega) (by omega) (by simp) ?_; intro v3 w3 ho3 hG3 hat3; refine wp_stop ?_)
  have hB3 := hal2.grown hG3 hal2.size (fun k hk => by have := (h02.lt k hk).1; omega)
  rw [List.nil_append, Nat.zero_add] at ho3
  have ht3 := Rd.of_own ho3
  have hk3 := hk2.keep (F' := fun b => b < w2.heap.size) (fun b hb hf => ⟨hf, hG3.block b hb (fun e => by have := (h02.lt _ e.symm).1; omega)⟩)
  obtain ⟨Ak, ck, rfl⟩ := own_shape ho2
  obtain ⟨At, ct, rfl⟩ := own_shape ho3
  have hs3 := hB3.size
  clear ho2 ho3 hk2 ht2 hal2 h02 hG3 hat3 hG2 hat2 hB2
  refine wp_go ?_
  go_wp2_with (fail)
  refine (tag_any _ _ key text _ _ _ (hK.below hB3) hk3 ht3 (by omega) (by omega)).mono ?_
  rintro e w4 ⟨rfl, hB4⟩
  obtain ⟨r, hr⟩ : ∃ r, r = tagF key text := ⟨_, rfl⟩
  have Hrl : Hid (r.length = 32) := by show _ = _; rw [hr]; exact len_tag _ _
  have Hr := hid hr
  clear hr
  rw [← Hr.out]
  have hB4' := hB3.trans (hB4.mono hB3.size)
  have hz4 := Blk.new' w4 25 (zs8 32)
  have hB5 := hB4'.alloc hB4'.size (.cells (zs8 32).toArray 25)
  have hal4 := (Below.refl w4.heap.size w4).alloc (Nat.le_refl _) (.cells (zs8 32).toArray 25)
  go_wp2_with (first | (refine wp_new 25 rfl rfl zero25 ?_) | (refine wp_st 25 (.tmp 7) (.tmp 26) rfl rfl rfl (f := 0) rfl (l := bvs r) rfl hz4 (by simp [zs8, len_bvs, Hrl.out]) (by rw [len_bvs, Hrl.out]; exact size25) (oneCell_bvs _) ?_; intro w5 hb hG5; refine wp_stop ?_))
  rw [set25 _ Hrl.out] at hb
  have hB6 := hB5.grown hG5 hB5.size (by intro k hk; injection hk with hk; have := hB4'.size; omega)
  have hB45 : Below w4.heap.size w4 w5 := hal4.grown hG5 (by simp) (by intro k hk; injection hk with hk; omega)
  have hk1 := hk.below hB6
  have ht1 := ht.below hB6
  have hk2 := (hk3.below hB4).below hB45
  have ht2 := (ht3.below hB4).below hB45
  have heq := eqH r r Hrl.out Hrl.out
  rw [beq_self_eq_true] at heq
  have hKq := hK.below hB6
  obtain ⟨b7, hb7⟩ : ∃ b, b = w4.heap.size := ⟨_, rfl⟩
  rw [← hb7] at hb ⊢
  clear hk3 ht3 hB45 hal4 hz4 hB5 hb7
  obtain ⟨wq, hwq⟩ : ∃ wq, wq = w5 := ⟨_, rfl⟩
  subst hwq
  have HK1 : Hid (∀ W, Ch nob wq W → Rd W F (.slice A key.length c) (bys key)) := fun W h => hk1.ext h
  have HT1 : Hid (∀ W, Ch nob wq W → Rd W G (.slice A2 text.length c2) (bys text)) := fun W h => ht1.ext h
  have HK2 : Hid (∀ W, Ch nob wq W → Rd W _ (.slice Ak key.length ck) (bys key)) := fun W h => hk2.ext h
  have HT2 : Hid (∀ W, Ch nob wq W → Rd W _ (.slice At text.length ct) (bys text)) := fun W h => ht2.ext h
  have HKS : Hid (∀ W, Ch nob wq W → KS W) := fun W h => hKq.below h.below
  clear hk1 ht1 hk2 ht2 hKq
  refine wp_go ?_
  go_wp2
  refine wp_region_noPanic ?_
  refine wp_region_held_drew (S := Ch nob wq) (by kernel_rfl) ((Ch.refl _ _).drew) (fun hHeld => ?_)
  refine wpAnyH_take (i := 0) (oi := ⟨some 27, .load 25 (.tmp 7), _, _, _, none⟩) (v := _) rfl (by kernel_rfl) (by kernel_rfl) (by kernel_rfl) (fun _ _ _ h => h) (yieldsIf_load_mid (by rfl) 25 (.tmp 7) (by rfl) _ (0) (by rfl) _ _ (fun _ hs => hb.chAt (fun h => h) hs) und25 rfl (by rw [len_bvs, Hrl.out]; exact size25)) (by assumption) ?_
  try simp only [Act.put, List.setIfInBounds_toArray, List.set_cons_zero, List.set_cons_succ]
  refine wpAnyH_take (i := 1) (oi := ⟨some 28, _, _, _, _, none⟩) (v := ?_) rfl (by kernel_rfl) (by kernel_rfl) (by kernel_rfl) (fun _ _ _ h => h) (Or.inl ⟨by rfl, ?_⟩) (by assumption) ?_
  rotate_left
  · intro w hSw; go_simp; try with_reducible rfl
  try simp only [Act.put, List.setIfInBounds_toArray, List.set_cons_zero, List.set_cons_succ]
  refine wpAnyH_take (i := 2) (oi := ⟨some 29, _, _, _, _, none⟩) (v := ?_) rfl (by kernel_rfl) (by kernel_rfl) (by kernel_rfl) (fun _ _ _ h => h) (Or.inl ⟨by rfl, ?_⟩) (by assumption) ?_
  rotate_left
  · intro w hSw; go_simp; try with_reducible rfl
  try simp only [Act.put, List.setIfInBounds_toArray, List.set_cons_zero, List.set_cons_succ]
  refine wpAnyH_ready (rs := [3]) (by kernel_rfl) (by simp) ?_
  refine AllReadyH.cons (o := ⟨some 30, _, _, _, _, none⟩) rfl (fun K hK => ?_) AllReadyH.nil
  go_simp
  refine (rtag_any _ _ key text _ _ _ (HK1.out _ hHeld) (HT1.out _ hHeld) (by omega) (by omega)).mono ?_
  rintro e' w11 ⟨rfl, hB11⟩
  rw [← Hr.out]
  have hC11 := hHeld.belowG hB11
  refine hK.out _ _ (hC11) (fun hHeld => ?_)
  clear hK K
  try simp only [Act.put, List.setIfInBounds_toArray, List.set_cons_zero, List.set_cons_succ]
  refine wpAnyH_take (i := 4) (oi := ⟨some 31, _, _, _, _, none⟩) (v := ?_) rfl (by kernel_rfl) (by kernel_rfl) (by kernel_rfl) (fun _ _ _ h => h) (Or.inl ⟨by rfl, ?_⟩) (by assumption) ?_
  rotate_left
  · intro w hSw; go_simp; try with_reducible rfl
  try simp only [Act.put, List.setIfInBounds_toArray, List.set_cons_zero, List.set_cons_succ]
  refine wpAnyH_take (i := 5) (oi := ⟨some 32, _, _, _, _, none⟩) (v := ?_) rfl (by kernel_rfl) (by kernel_rfl) (by kernel_rfl) (fun _ _ _ h => h) (Or.inl ⟨by rfl, ?_⟩) (by assumption) ?_
  rotate_left
  · intro w hSw; go_simp; try with_reducible rfl
  try simp only [Act.put, List.setIfInBounds_toArray, List.set_cons_zero, List.set_cons_succ]
  refine wpAnyH_take (i := 6) (oi := ⟨some 33, _, _, _, _, some (5, true)⟩) (v := ?_) rfl (by kernel_rfl) (by kernel_rfl) (by kernel_rfl) (fun _ _ _ h => h) (Or.inl ⟨by rfl, ?_⟩) (by assumption) ?_
  rotate_left
  · intro w hSw; go_simp; try with_reducible rfl
  try simp only [Act.put, List.setIfInBounds_toArray, List.set_cons_zero, List.set_cons_succ]
  refine wpAnyH_take (i := 7) (oi := ⟨some 34, _, _, _, _, some (5, true)⟩) (v := ?_) rfl (by kernel_rfl) (by kernel_rfl) (by kernel_rfl) (fun _ _ _ h => h) (Or.inl ⟨by rfl, ?_⟩) (by assumption) ?_
  rotate_left
  · intro w hSw; go_simp; try with_reducible rfl
  try simp only [Act.put, List.setIfInBounds_toArray, List.set_cons_zero, List.set_cons_succ]
  refine wpAnyH_take (i := 8) (oi := ⟨some 35, .load 25 (.tmp 7), _, _, _, some (5, true)⟩) (v := _) rfl (by kernel_rfl) (by kernel_rfl) (by kernel_rfl) (fun _ _ _ h => h) (yieldsIf_load_mid (by rfl) 25 (.tmp 7) (by rfl) _ (0) (by rfl) _ _ (fun _ hs => hb.chAt (fun h => h) hs) und25 rfl (by rw [len_bvs, Hrl.out]; exact size25)) (by assumption) ?_
  try simp only [Act.put, List.setIfInBounds_toArray, List.set_cons_zero, List.set_cons_succ]
  refine wpAnyH_ready (rs := [9]) (by kernel_rfl) (by simp) ?_
  refine AllReadyH.cons (o := ⟨some 36, _, _, _, _, some (5, true)⟩) rfl (fun K hK => ?_) AllReadyH.nil
  go_simp
  refine (check_any _ _ key text r _ _ _ (HKS.out _ hC11) (HK2.out _ hC11) (HT2.out _ hC11) (by omega) (by omega) Hrl.out).mono ?_
  rintro e' w12 ⟨rfl, hB12⟩
  rw [← Hr.out, beq_self_eq_true]
  have hC12 := hC11.belowG hB12
  refine hK.out _ _ (hC12) (fun hHeld => ?_)
  clear hK K
  try simp only [Act.put, List.setIfInBounds_toArray, List.set_cons_zero, List.set_cons_succ]
  refine wpAnyH_take (i := 10) (oi := ⟨some 37, _, _, _, _, none⟩) (v := ?_) rfl (by kernel_rfl) (by kernel_rfl) (by kernel_rfl) (fun _ _ _ h => h) (Or.inl ⟨by rfl, ?_⟩) (by assumption) ?_
  rotate_left
  · intro w hSw; go_simp; try with_reducible rfl
  try simp only [Act.put, List.setIfInBounds_toArray, List.set_cons_zero, List.set_cons_succ]
  refine wpAnyH_take (i := 11) (oi := ⟨some 38, _, _, _, _, none⟩) (v := ?_) rfl (by kernel_rfl) (by kernel_rfl) (by kernel_rfl) (fun _ _ _ h => h) (Or.inl ⟨by rfl, ?_⟩) (by assumption) ?_
  rotate_left
  · intro w hSw; go_simp; try with_reducible rfl
  try simp only [Act.put, List.setIfInBounds_toArray, List.set_cons_zero, List.set_cons_succ]
  refine wpAnyH_take (i := 12) (oi := ⟨some 39, _, _, _, _, some (11, true)⟩) (v := ?_) rfl (by kernel_rfl) (by kernel_rfl) (by kernel_rfl) (fun _ _ _ h => h) (Or.inl ⟨by rfl, ?_⟩) (by assumption) ?_
  rotate_left
  · intro w hSw; go_simp; try with_reducible rfl
  try simp only [Act.put, List.setIfInBounds_toArray, List.set_cons_zero, List.set_cons_succ]
  refine wpAnyH_take (i := 13) (oi := ⟨some 40, _, _, _, _, some (11, true)⟩) (v := ?_) rfl (by kernel_rfl) (by kernel_rfl) (by kernel_rfl) (fun _ _ _ h => h) (Or.inl ⟨by rfl, ?_⟩) (by assumption) ?_
  rotate_left
  · intro w hSw; go_simp; try with_reducible rfl
  try simp only [Act.put, List.setIfInBounds_toArray, List.set_cons_zero, List.set_cons_succ]
  refine wpAnyH_ready (rs := [14]) (by kernel_rfl) (by simp) ?_
  refine AllReadyH.cons (o := ⟨some 41, _, _, _, _, some (11, true)⟩) rfl (fun K hK => ?_) AllReadyH.nil
  go_simp
  refine (same_b _ _ key key _ _ _ (HK2.out _ hC12) (HK1.out _ hC12)).mono ?_
  rintro e' w13 ⟨rfl, hB13⟩
  rw [decide_eq_true rfl]
  have hC13 := hC12.belowG hB13
  refine hK.out _ _ (hC13) (fun hHeld => ?_)
  clear hK K
  try simp only [Act.put, List.setIfInBounds_toArray, List.set_cons_zero, List.set_cons_succ]
  refine wpAnyH_take (i := 15) (oi := ⟨some 42, _, _, _, _, none⟩) (v := ?_) rfl (by kernel_rfl) (by kernel_rfl) (by kernel_rfl) (fun _ _ _ h => h) (Or.inl ⟨by rfl, ?_⟩) (by assumption) ?_
  rotate_left
  · intro w hSw; go_simp; try with_reducible rfl
  try simp only [Act.put, List.setIfInBounds_toArray, List.set_cons_zero, List.set_cons_succ]
  refine wpAnyH_take (i := 16) (oi := ⟨some 43, _, _, _, _, none⟩) (v := ?_) rfl (by kernel_rfl) (by kernel_rfl) (by kernel_rfl) (fun _ _ _ h => h) (Or.inl ⟨by rfl, ?_⟩) (by assumption) ?_
  rotate_left
  · intro w hSw; go_simp; try with_reducible rfl
  try simp only [Act.put, List.setIfInBounds_toArray, List.set_cons_zero, List.set_cons_succ]
  refine wpAnyH_take (i := 17) (oi := ⟨some 44, _, _, _, _, some (16, true)⟩) (v := ?_) rfl (by kernel_rfl) (by kernel_rfl) (by kernel_rfl) (fun _ _ _ h => h) (Or.inl ⟨by rfl, ?_⟩) (by assumption) ?_
  rotate_left
  · intro w hSw; go_simp; try with_reducible rfl
  try simp only [Act.put, List.setIfInBounds_toArray, List.set_cons_zero, List.set_cons_succ]
  refine wpAnyH_take (i := 18) (oi := ⟨some 45, _, _, _, _, some (16, true)⟩) (v := ?_) rfl (by kernel_rfl) (by kernel_rfl) (by kernel_rfl) (fun _ _ _ h => h) (Or.inl ⟨by rfl, ?_⟩) (by assumption) ?_
  rotate_left
  · intro w hSw; go_simp; try with_reducible rfl
  try simp only [Act.put, List.setIfInBounds_toArray, List.set_cons_zero, List.set_cons_succ]
  refine wpAnyH_ready (rs := [19]) (by kernel_rfl) (by simp) ?_
  refine AllReadyH.cons (o := ⟨some 46, _, _, _, _, some (16, true)⟩) rfl (fun K hK => ?_) AllReadyH.nil
  go_simp
  refine (same_b _ _ text text _ _ _ (HT2.out _ hC13) (HT1.out _ hC13)).mono ?_
  rintro e' w14 ⟨rfl, hB14⟩
  rw [decide_eq_true rfl]
  have hC14 := hC13.belowG hB14
  refine hK.out _ _ (hC14) (fun hHeld => ?_)
  clear hK K
  try simp only [Act.put, List.setIfInBounds_toArray, List.set_cons_zero, List.set_cons_succ]
  refine wpAnyH_take (i := 20) (oi := ⟨some 47, _, _, _, _, none⟩) (v := ?_) rfl (by kernel_rfl) (by kernel_rfl) (by kernel_rfl) (fun _ _ _ h => h) (Or.inl ⟨by rfl, ?_⟩) (by assumption) ?_
  rotate_left
  · intro w hSw; go_simp; try with_reducible rfl
  try simp only [Act.put, List.setIfInBounds_toArray, List.set_cons_zero, List.set_cons_succ]
  refine wpAnyH_take (i := 21) (oi := ⟨some 4, _, _, _, _, none⟩) (v := ?_) rfl (by kernel_rfl) (by kernel_rfl) (by kernel_rfl) (fun _ _ _ h => h) (Or.inl ⟨by rfl, ?_⟩) (by assumption) ?_
  rotate_left
  · intro w hSw; go_simp; try with_reducible rfl
  try simp only [Act.put, List.setIfInBounds_toArray, List.set_cons_zero, List.set_cons_succ]
  refine wpAnyH_done (by kernel_rfl) ?_ _
  refine NoPanic.normal ?_
  go_wp2
  go_ret
  exact ⟨rfl, hB6.trans (hC14.below.mono hB6.size)⟩
set_option maxRecDepth 100000 in
set_option maxHeartbeats 2000000 in
theorem macCheck_law (kv tv : Value) (key text g : List UInt8) (F G : Nat → Prop) (w : World) (hK : KS w) (hk : Rd w F kv (bys key)) (ht : Rd w G tv (bys text)) (hg : g.length = 32) :
    Calls Tryd.prog 4 #[kv, tv, .agg (bvs g).toArray] w fun e w' => e = .returned (.bool true) ∧ Below w.heap.size w w' := by
  obtain ⟨A, c, rfl⟩ := hk.shape
  obtain ⟨A2, c2, rfl⟩ := ht.shape
  have Hg := hid hg
  have hb := Blk.new' w 25 (bvs g)
  have hB := (Below.refl w.heap.size w).alloc (Nat.le_refl _) (.cells (bvs g).toArray 25)
  by_cases h1 : 1000 < key.length
  · clear hg
    go_enter Tryd.func4, Tryd.ntmps4
    go_wp2_with (fail)
    refine (wakes_any _ (hK.below hB)).mono ?_
    rintro e w1 ⟨rfl, hB1⟩
    go_wp2
    go_ret
    exact ⟨rfl, hB.trans (hB1.mono hB.size)⟩
  by_cases h2 : 2000 < text.length
  · clear hg
    go_enter Tryd.func4, Tryd.ntmps4
    go_wp2_with (fail)
    refine (wakes_any _ (hK.below hB)).mono ?_
    rintro e w1 ⟨rfl, hB1⟩
    go_wp2
    go_ret
    exact ⟨rfl, hB.trans (hB1.mono hB.size)⟩
  obtain ⟨r, hr⟩ : ∃ r, r = tagF key text := ⟨_, rfl⟩
  have Hrl : Hid (r.length = 32) := by show _ = _; rw [hr]; exact len_tag _ _
  have Hr := hid hr
  have hbb : Hid ((r == g) = (g == r)) := Bool.beq_comm
  clear hr hg
  go_enter Tryd.func4, Tryd.ntmps4
  go_wp2_with (fail)
  refine (wakes_any _ (hK.below hB)).mono ?_
  rintro e wq ⟨rfl, hB1⟩
  have hB6 := hB.trans (hB1.mono hB.size)
  have hk1 := hk.below hB6
  have ht1 := ht.below hB6
  have hb := hb.below hB1
  have heq := eqH g r Hg.out Hrl.out
  have hKq := hK.below hB6
  have HK1 : Hid (∀ W, Ch nob wq W → Rd W F (.slice A key.length c) (bys key)) := fun W h => hk1.ext h
  have HT1 : Hid (∀ W, Ch nob wq W → Rd W G (.slice A2 text.length c2) (bys text)) := fun W h => ht1.ext h
  have HKS : Hid (∀ W, Ch nob wq W → KS W) := fun W h => hKq.below h.below
  obtain ⟨b5, hb5⟩ : ∃ b, b = w.heap.size := ⟨_, rfl⟩
  rw [← hb5] at hb
  clear hk1 ht1 hKq
  go_wp2
  rw [← hb5]
  clear hb5
  refine wp_region_noPanic ?_
  refine wp_region_held_drew (S := Ch nob wq) (by kernel_rfl) ((Ch.refl _ _).drew) (fun hHeld => ?_)
  refine wpAnyH_take (i := 0) (oi := ⟨some 17, _, _, _, _, none⟩) (v := ?_) rfl (by kernel_rfl) (by kernel_rfl) (by kernel_rfl) (fun _ _ _ h => h) (Or.inl ⟨by rfl, ?_⟩) (by assumption) ?_
  rotate_left
  · intro w hSw; go_simp; try with_reducible rfl
  try simp only [Act.put, List.setIfInBounds_toArray, List.set_cons_zero, List.set_cons_succ]
  refine wpAnyH_take (i := 1) (oi := ⟨some 18, _, _, _, _, none⟩) (v := ?_) rfl (by kernel_rfl) (by kernel_rfl) (by kernel_rfl) (fun _ _ _ h => h) (Or.inl ⟨by rfl, ?_⟩) (by assumption) ?_
  rotate_left
  · intro w hSw; go_simp; try with_reducible rfl
  try simp only [Act.put, List.setIfInBounds_toArray, List.set_cons_zero, List.set_cons_succ]
  refine wpAnyH_take (i := 2) (oi := ⟨some 19, .load 25 (.tmp 5), _, _, _, none⟩) (v := _) rfl (by kernel_rfl) (by kernel_rfl) (by kernel_rfl) (fun _ _ _ h => h) (yieldsIf_load_mid (by rfl) 25 (.tmp 5) (by rfl) _ (0) (by rfl) _ _ (fun _ hs => hb.chAt (fun h => h) hs) und25 rfl (by rw [len_bvs, Hg.out]; exact size25)) (by assumption) ?_
  try simp only [Act.put, List.setIfInBounds_toArray, List.set_cons_zero, List.set_cons_succ]
  refine wpAnyH_take (i := 4) (oi := ⟨some 21, .load 25 (.tmp 5), _, _, _, none⟩) (v := _) rfl (by kernel_rfl) (by kernel_rfl) (by kernel_rfl) (fun _ _ _ h => h) (yieldsIf_load_mid (by rfl) 25 (.tmp 5) (by rfl) _ (0) (by rfl) _ _ (fun _ hs => hb.chAt (fun h => h) hs) und25 rfl (by rw [len_bvs, Hg.out]; exact size25)) (by assumption) ?_
  try simp only [Act.put, List.setIfInBounds_toArray, List.set_cons_zero, List.set_cons_succ]
  refine wpAnyH_take (i := 5) (oi := ⟨some 22, _, _, _, _, none⟩) (v := ?_) rfl (by kernel_rfl) (by kernel_rfl) (by kernel_rfl) (fun _ _ _ h => h) (Or.inl ⟨by rfl, ?_⟩) (by assumption) ?_
  rotate_left
  · intro w hSw; go_simp; try with_reducible rfl
  try simp only [Act.put, List.setIfInBounds_toArray, List.set_cons_zero, List.set_cons_succ]
  refine wpAnyH_take (i := 6) (oi := ⟨some 23, _, _, _, _, none⟩) (v := ?_) rfl (by kernel_rfl) (by kernel_rfl) (by kernel_rfl) (fun _ _ _ h => h) (Or.inl ⟨by rfl, ?_⟩) (by assumption) ?_
  rotate_left
  · intro w hSw; go_simp; try with_reducible rfl
  try simp only [Act.put, List.setIfInBounds_toArray, List.set_cons_zero, List.set_cons_succ]
  refine wpAnyH_ready (rs := [3]) (by kernel_rfl) (by simp) ?_
  refine AllReadyH.cons (o := ⟨some 20, _, _, _, _, none⟩) rfl (fun K hK => ?_) AllReadyH.nil
  go_simp
  refine (check_any _ _ key text g _ _ _ (HKS.out _ hHeld) (HK1.out _ hHeld) (HT1.out _ hHeld) (by omega) (by omega) Hg.out).mono ?_
  rintro e' w12 ⟨rfl, hB12⟩
  rw [← Hr.out]
  have hC12 := hHeld.belowG hB12
  refine hK.out _ _ (hC12) (fun hHeld => ?_)
  clear hK K
  try simp only [Act.put, List.setIfInBounds_toArray, List.set_cons_zero, List.set_cons_succ]
  refine wpAnyH_ready (rs := [7]) (by kernel_rfl) (by simp) ?_
  refine AllReadyH.cons (o := ⟨some 24, _, _, _, _, none⟩) rfl (fun K hK => ?_) AllReadyH.nil
  go_simp
  refine (rtag_any _ _ key text _ _ _ (HK1.out _ hC12) (HT1.out _ hC12) (by omega) (by omega)).mono ?_
  rintro e' w13 ⟨rfl, hB13⟩
  rw [← Hr.out]
  have hC13 := hC12.belowG hB13
  refine hK.out _ _ (hC13) (fun hHeld => ?_)
  clear hK K
  try simp only [Act.put, List.setIfInBounds_toArray, List.set_cons_zero, List.set_cons_succ]
  refine wpAnyH_take (i := 8) (oi := ⟨some 25, _, _, _, _, none⟩) (v := ?_) rfl (by kernel_rfl) (by kernel_rfl) (by kernel_rfl) (fun _ _ _ h => h) (Or.inl ⟨by rfl, ?_⟩) (by assumption) ?_
  rotate_left
  · intro w hSw; go_simp; try with_reducible rfl
  try simp only [Act.put, List.setIfInBounds_toArray, List.set_cons_zero, List.set_cons_succ]
  refine wpAnyH_take (i := 9) (oi := ⟨some 26, _, _, _, _, none⟩) (v := ?_) rfl (by kernel_rfl) (by kernel_rfl) (by kernel_rfl) (fun _ _ _ h => h) (Or.inl ⟨by rfl, ?_⟩) (by assumption) ?_
  rotate_left
  · intro w hSw; go_simp; try with_reducible rfl
  try simp only [Act.put, List.setIfInBounds_toArray, List.set_cons_zero, List.set_cons_succ]
  refine wpAnyH_take (i := 10) (oi := ⟨some 6, _, _, _, _, none⟩) (v := ?_) rfl (by kernel_rfl) (by kernel_rfl) (by kernel_rfl) (fun _ _ _ h => h) (Or.inl ⟨by rfl, ?_⟩) (by assumption) ?_
  rotate_left
  · intro w hSw; go_simp; try with_reducible rfl
  try simp only [Act.put, List.setIfInBounds_toArray, List.set_cons_zero, List.set_cons_succ]
  refine wpAnyH_done (by kernel_rfl) ?_ _
  refine NoPanic.normal ?_
  go_wp2
  go_ret
  rw [hbb.out, beq_self_eq_true]
  exact ⟨rfl, hB6.trans (hC13.below.mono hB6.size)⟩
end Go.Proofs.YtlehdpoedmaghaaDoor
