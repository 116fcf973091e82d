/- O7: layer 4: the law OtsSigns. -/
import Derived.Test.YtigojjdoacfdgaaDoorO6
import Derived.Deep.DeepCutAuto
namespace Go.Proofs.YtigojjdoacfdgaaDoor
open Go.RowKit Go.V
set_option maxRecDepth 100000 in
set_option maxHeartbeats 4000000 in
theorem otsSigns_law (seed : List UInt8) (idx : Int) (tv : Value) (text : List UInt8) (F : Nat → Prop) (w : World) (hK : KS w) (hl : seed.length = 32) (h1 : -9223372036854775808 ≤ idx) (h2 : idx ≤ 9223372036854775807) (ht : Rd w F tv (bys text)) :
    Calls Tryd.prog 3 #[.agg (bvs seed).toArray, .int .i64 idx, tv] w fun e w' => e = .returned (.bool true) ∧ Below w.heap.size w w' := by
  obtain ⟨A, c, rfl⟩ := ht.shape
  have Hl := hid hl
  clear hl
  have hsd := Blk.new' w 23 (bvs seed)
  have hB := (Below.refl w.heap.size w).alloc (Nat.le_refl _) (.cells (bvs seed).toArray 23)
  by_cases hg : 500 < text.length
  · go_enter Tryd.func3, Tryd.ntmps3
    go_wp2_with (fail)
    refine (wakes4_any _).mono ?_
    rintro e w1 ⟨rfl, hB1⟩
    go_wp2
    go_ret
    exact ⟨rfl, hB.trans (hB1.mono hB.size)⟩
  obtain ⟨r, hr⟩ : ∃ r, r = pubF seed idx := ⟨_, rfl⟩
  have Hrl : Hid (r.length = 32) := by show _ = _; rw [hr]; exact len_pub _ _
  have Hr := hid hr
  obtain ⟨sg, hsg⟩ : ∃ sg, sg = sigF seed idx text := ⟨_, rfl⟩
  have Hsl : Hid (sg.length = 560) := by show _ = _; rw [hsg]; exact len_sig _ _ _
  have Hsg := hid hsg
  clear hr hsg
  have hbs : ∀ W : World, (Instr.buildSlice 24 0 #[]).run Tryd.prog W = .ok (.slice (some ⟨W.heap.size, 0, none⟩) 0 0) (W.alloc (.cells #[] 5)) := fun W => by kernel_rfl
  go_enter Tryd.func3, Tryd.ntmps3
  go_wp2_with (fail)
  refine (wakes4_any _).mono ?_
  rintro e wq ⟨rfl, hB1⟩
  have hB1' := hB.trans (hB1.mono hB.size)
  have hsq := hsd.below hB1
  have htq := ht.below hB1'
  have hKq := hK.below hB1'
  obtain ⟨b3, hb3⟩ : ∃ b, b = w.heap.size := ⟨_, rfl⟩
  rw [← hb3] at hsq
  have HSD : Hid (∀ W, Ch nob wq W → W.rangeAt b3 0 (bvs seed)) := fun W h => hsq.chAt (fun h => h) h
  have HKS : Hid (∀ W, Ch nob wq W → KS W) := fun W h => hKq.below h.below
  have HT : Hid (∀ W, Ch nob wq W → Rd W F (.slice A text.length c) (bys text)) := fun W h => htq.ext h
  have HSQ := hid hsq
  clear hsq hKq htq
  go_upto_region 5 with (fail)
  rw [← hb3]
  clear hb3
  go_cut [7, 8] (fun s7 s8 wx => ∃ g, s7 = .pointer (some ⟨g, 0, none⟩) ∧ Blk wx g 23 (bvs r) ∧ Rd wx (fun b => b ≠ g) s8 (bys (sigF seed idx text)) ∧ Below wq.heap.size wq wx)
  case first =>
    refine wp_region_noPanic ?_
    refine wp_region_held_drew (S := Ch nob wq) (by kernel_rfl) ((Ch.refl _ _).drew) (fun hHeld => ?_)
    refine wpAnyH_take (i := 0) (oi := ⟨some 16, .load 23 (.tmp 3), _, _, _, none⟩) (v := _) rfl (by kernel_rfl) (by kernel_rfl) (by kernel_rfl) (fun _ _ _ h => h) (yieldsIf_load_mid (by rfl) 23 (.tmp 3) (by rfl) _ (0) (by rfl) _ _ (fun _ hs => HSD.out _ hs) und25 rfl (by rw [len_bvs, Hl.out]; exact size25)) (by assumption) ?_
    try simp only [Act.put, List.setIfInBounds_toArray, List.set_cons_zero, List.set_cons_succ]
    refine wpAnyH_take (i := 1) (oi := ⟨some 17, _, _, _, _, none⟩) (v := ?_) rfl (by kernel_rfl) (by kernel_rfl) (by kernel_rfl) (fun _ _ _ h => h) (Or.inl ⟨by rfl, ?_⟩) (by assumption) ?_
    rotate_left
    · intro w hSw; go_simp; try with_reducible rfl
    try simp only [Act.put, List.setIfInBounds_toArray, List.set_cons_zero, List.set_cons_succ]
    refine wpAnyH_take (i := 3) (oi := ⟨some 19, .load 23 (.tmp 3), _, _, _, none⟩) (v := _) rfl (by kernel_rfl) (by kernel_rfl) (by kernel_rfl) (fun _ _ _ h => h) (yieldsIf_load_mid (by rfl) 23 (.tmp 3) (by rfl) _ (0) (by rfl) _ _ (fun _ hs => HSD.out _ hs) und25 rfl (by rw [len_bvs, Hl.out]; exact size25)) (by assumption) ?_
    try simp only [Act.put, List.setIfInBounds_toArray, List.set_cons_zero, List.set_cons_succ]
    refine wpAnyH_take (i := 4) (oi := ⟨some 20, _, _, _, _, none⟩) (v := ?_) rfl (by kernel_rfl) (by kernel_rfl) (by kernel_rfl) (fun _ _ _ h => h) (Or.inl ⟨by rfl, ?_⟩) (by assumption) ?_
    rotate_left
    · intro w hSw; go_simp; try with_reducible rfl
    try simp only [Act.put, List.setIfInBounds_toArray, List.set_cons_zero, List.set_cons_succ]
    refine wpAnyH_take (i := 6) (oi := ⟨some 22, _, _, _, _, none⟩) (v := ?_) rfl (by kernel_rfl) (by kernel_rfl) (by kernel_rfl) (fun _ _ _ h => h) (Or.inl ⟨by rfl, ?_⟩) (by assumption) ?_
    rotate_left
    · intro w hSw; go_simp; try with_reducible rfl
    try simp only [Act.put, List.setIfInBounds_toArray, List.set_cons_zero, List.set_cons_succ]
    refine wpAnyH_ready (rs := [2, 5, 9]) (by kernel_rfl) (by simp) ?_
    refine AllReadyH.cons (o := ⟨some 18, _, _, _, _, none⟩) rfl (fun K hK => ?_) ?_
    · go_simp
      refine (public_any seed idx _ (HKS.out _ hHeld) Hl.out h1 h2).mono ?_
      rintro e' w2 ⟨rfl, hB2⟩
      rw [← Hr.out]
      refine hK.out _ _ (hHeld.belowG hB2) (fun hHeld => ?_)
      clear hK K
      try simp only [Act.put, List.setIfInBounds_toArray, List.set_cons_zero, List.set_cons_succ]
      refine wpAnyH_ready (rs := [5, 9]) (by kernel_rfl) (by simp) ?_
      refine AllReadyH.cons (o := ⟨some 21, .buildSlice _ _ _, _, _, _, none⟩) rfl (fun K hK => ?_) ?_
      · refine step_bs0 24 5 (by rfl) (by rfl) hbs ?_
        intro v5 w5 h5 hB5
        have hz5 := hHeld.size
        have h5 := own_base (b2 := wq.heap.size) h5 (by simpa using hz5)
        refine hK.out _ _ (hHeld.belowG hB5) (fun hHeld => ?_)
        clear hK K
        try simp only [Act.put, List.setIfInBounds_toArray, List.set_cons_zero, List.set_cons_succ]
        refine wpAnyH_ready (rs := [7, 9]) (by kernel_rfl) (by simp) ?_
        refine AllReadyH.cons (o := ⟨some 23, _, _, _, _, none⟩) rfl (fun K hK => ?_) ?_
        · have ht7 := HT.out _ hHeld
          have hzz := hHeld.size
          refine step_app (.tmp 21) (.tmp 22) slB (by rfl) (by rfl) (by rfl) h5 (by rfl) ht7.src (oneCell_bvs text) (by simp only [maxLen]; omega) (by omega) (by simpa using hzz) ?_
          intro v7 w7 h7 hG7
          rw [List.nil_append, Nat.zero_add] at h7
          have hr7 := Rd.of_own h7
          obtain ⟨A7, c7, rfl⟩ := own_shape h7
          refine hK.out _ _ (hHeld.grow hG7 (fun k hk => .inr ((h5.lt k hk).1))) (fun hHeld => ?_)
          clear hK K
          try simp only [Act.put, List.setIfInBounds_toArray, List.set_cons_zero, List.set_cons_succ]
          refine wpAnyH_ready (rs := [8, 9]) (by kernel_rfl) (by simp) ?_
          refine AllReadyH.cons (o := ⟨some 24, _, _, _, _, none⟩) rfl (fun K hK => ?_) ?_
          · go_simp
            refine (sign_any seed idx _ text _ _ (HKS.out _ hHeld) Hl.out h1 h2 hr7 (by omega)).mono ?_
            rintro e' w8 ⟨v8, rfl, hr8, hB8⟩
            have hr8 := hr8.weak (F' := fun b => b < w8.heap.size) (fun b hb _ => hb)
            have hr7 := hr7.below hB8
            refine hK.out _ _ (hHeld.belowG hB8) (fun hHeld => ?_)
            clear hK K
            try simp only [Act.put, List.setIfInBounds_toArray, List.set_cons_zero, List.set_cons_succ]
            refine wpAnyH_ready (rs := [9]) (by kernel_rfl) (by simp) ?_
            refine AllReadyH.cons (o := ⟨some 7, .alloc _, _, _, _, none⟩) rfl (fun K hK => ?_) AllReadyH.nil
            refine step_new 23 (by rfl) (by rfl) zero25 ?_
            intro g9 w9 hg9 hgl9 hz9 hB9
            have hr8 := hr8.weak (F' := fun b => b ≠ g9) (fun b _ hb hh => by rw [hh] at hb; exact absurd hb (by omega))
            have hr8 := hr8.below hB9
            have hg9 : wq.heap.size ≤ g9 := Nat.le_trans hHeld.size hg9
            refine hK.out _ _ (hHeld.belowG hB9) (fun hHeld => ?_)
            clear hK K
            try simp only [Act.put, List.setIfInBounds_toArray, List.set_cons_zero, List.set_cons_succ]
            refine wpAnyH_ready (rs := [10]) (by kernel_rfl) (by simp) ?_
            refine AllReadyH.cons (o := ⟨none, .store _ (.tmp 7) (.tmp 18), _, _, _, none⟩) rfl (fun K hK => ?_) AllReadyH.nil
            refine step_st 23 (.tmp 7) (.tmp 18) (by rfl) (by rfl) (by rfl) (f := 0) (by rfl) (l := bvs r) (by rfl) hz9 (by simp [zs8, len_bvs, Hrl.out]) (by rw [len_bvs, Hrl.out]; exact size25) (oneCell_bvs _) ?_
            intro w10 hz10 hG10
            have hr8 := hr8.keep (F' := fun b => b ≠ g9) (fun b hb hf => ⟨hf, hG10.block b hb (by intro e; injection e with e; exact hf e)⟩)
            rw [set25 _ Hrl.out] at hz10
            refine hK.out _ _ (hHeld.grow hG10 (fun k hk => .inr (by injection hk with hk; omega))) (fun hHeld => ?_)
            clear hK K
            try simp only [Act.put, List.setIfInBounds_toArray, List.set_cons_zero, List.set_cons_succ]
            refine wpAnyH_take (i := 11) (oi := ⟨some 8, _, _, _, _, none⟩) (v := ?_) rfl (by kernel_rfl) (by kernel_rfl) (by kernel_rfl) (fun _ _ _ h => h) (Or.inl ⟨by rfl, ?_⟩) (by assumption) ?_
            rotate_left
            · intro w hSw; go_simp; try with_reducible rfl
            try simp only [Act.put, List.setIfInBounds_toArray, List.set_cons_zero, List.set_cons_succ]
            refine wpAnyH_done (by kernel_rfl) ?_ _
            refine NoPanic.normal ?_
            go_wp2
            go_meet
            exact ⟨g9, rfl, hz10, hr8, hHeld.below⟩
          refine AllReadyH.cons (o := ⟨some 7, .alloc _, _, _, _, none⟩) rfl (fun K hK => ?_) AllReadyH.nil
          refine step_new 23 (by rfl) (by rfl) zero25 ?_
          intro g9 w9 hg9 hgl9 hz9 hB9
          have hr7 := hr7.below hB9
          have hg9 : wq.heap.size ≤ g9 := Nat.le_trans hHeld.size hg9
          refine hK.out _ _ (hHeld.belowG hB9) (fun hHeld => ?_)
          clear hK K
          try simp only [Act.put, List.setIfInBounds_toArray, List.set_cons_zero, List.set_cons_succ]
          refine wpAnyH_ready (rs := [8]) (by kernel_rfl) (by simp) ?_
          refine AllReadyH.cons (o := ⟨some 24, _, _, _, _, none⟩) rfl (fun K hK => ?_) AllReadyH.nil
          go_simp
          refine (sign_any seed idx _ text _ _ (HKS.out _ hHeld) Hl.out h1 h2 hr7 (by omega)).mono ?_
          rintro e' w8 ⟨v8, rfl, hr8, hB8⟩
          have hr8 := hr8.weak (F' := fun b => b ≠ g9) (fun b _ hb hh => by have := hz9.lt; rw [hh] at hb; exact absurd hb (by omega))
          have hr7 := hr7.below hB8
          have hz9 := hz9.below hB8
          refine hK.out _ _ (hHeld.belowG hB8) (fun hHeld => ?_)
          clear hK K
          try simp only [Act.put, List.setIfInBounds_toArray, List.set_cons_zero, List.set_cons_succ]
          refine wpAnyH_ready (rs := [10]) (by kernel_rfl) (by simp) ?_
          refine AllReadyH.cons (o := ⟨none, .store _ (.tmp 7) (.tmp 18), _, _, _, none⟩) rfl (fun K hK => ?_) AllReadyH.nil
          refine step_st 23 (.tmp 7) (.tmp 18) (by rfl) (by rfl) (by rfl) (f := 0) (by rfl) (l := bvs r) (by rfl) hz9 (by simp [zs8, len_bvs, Hrl.out]) (by rw [len_bvs, Hrl.out]; exact size25) (oneCell_bvs _) ?_
          intro w10 hz10 hG10
          have hr8 := hr8.keep (F' := fun b => b ≠ g9) (fun b hb hf => ⟨hf, hG10.block b hb (by intro e; injection e with e; exact hf e)⟩)
          rw [set25 _ Hrl.out] at hz10
          refine hK.out _ _ (hHeld.grow hG10 (fun k hk => .inr (by injection hk with hk; omega))) (fun hHeld => ?_)
          clear hK K
          try simp only [Act.put, List.setIfInBounds_toArray, List.set_cons_zero, List.set_cons_succ]
          refine wpAnyH_take (i := 11) (oi := ⟨some 8, _, _, _, _, none⟩) (v := ?_) rfl (by kernel_rfl) (by kernel_rfl) (by kernel_rfl) (fun _ _ _ h => h) (Or.inl ⟨by rfl, ?_⟩) (by assumption) ?_
          rotate_left
          · intro w hSw; go_simp; try with_reducible rfl
          try simp only [Act.put, List.setIfInBounds_toArray, List.set_cons_zero, List.set_cons_succ]
          refine wpAnyH_done (by kernel_rfl) ?_ _
          refine NoPanic.normal ?_
          go_wp2
          go_meet
          exact ⟨g9, rfl, hz10, hr8, hHeld.below⟩
        refine AllReadyH.cons (o := ⟨some 7, .alloc _, _, _, _, none⟩) rfl (fun K hK => ?_) AllReadyH.nil
        refine step_new 23 (by rfl) (by rfl) zero25 ?_
        intro g9 w9 hg9 hgl9 hz9 hB9
        have h5 := own_keepB h5 hB9
        have hg9 : wq.heap.size ≤ g9 := Nat.le_trans hHeld.size hg9
        refine hK.out _ _ (hHeld.belowG hB9) (fun hHeld => ?_)
        clear hK K
        try simp only [Act.put, List.setIfInBounds_toArray, List.set_cons_zero, List.set_cons_succ]
        refine wpAnyH_ready (rs := [7]) (by kernel_rfl) (by simp) ?_
        refine AllReadyH.cons (o := ⟨some 23, _, _, _, _, none⟩) rfl (fun K hK => ?_) AllReadyH.nil
        have ht7 := HT.out _ hHeld
        have hzz := hHeld.size
        refine step_app (.tmp 21) (.tmp 22) slB (by rfl) (by rfl) (by rfl) h5 (by rfl) ht7.src (oneCell_bvs text) (by simp only [maxLen]; omega) (by omega) (by simpa using hzz) ?_
        intro v7 w7 h7 hG7
        rw [List.nil_append, Nat.zero_add] at h7
        have hz9 := hz9.keep (hG7.block _ hz9.lt (fun e => own_apart h5 hz9 (by decide) e.symm))
        have hr7 := Rd.of_own h7
        obtain ⟨A7, c7, rfl⟩ := own_shape h7
        refine hK.out _ _ (hHeld.grow hG7 (fun k hk => .inr ((h5.lt k hk).1))) (fun hHeld => ?_)
        clear hK K
        try simp only [Act.put, List.setIfInBounds_toArray, List.set_cons_zero, List.set_cons_succ]
        refine wpAnyH_ready (rs := [8]) (by kernel_rfl) (by simp) ?_
        refine AllReadyH.cons (o := ⟨some 24, _, _, _, _, none⟩) rfl (fun K hK => ?_) AllReadyH.nil
        go_simp
        refine (sign_any seed idx _ text _ _ (HKS.out _ hHeld) Hl.out h1 h2 hr7 (by omega)).mono ?_
        rintro e' w8 ⟨v8, rfl, hr8, hB8⟩
        have hr8 := hr8.weak (F' := fun b => b ≠ g9) (fun b _ hb hh => by have := hz9.lt; rw [hh] at hb; exact absurd hb (by omega))
        have hr7 := hr7.below hB8
        have hz9 := hz9.below hB8
        refine hK.out _ _ (hHeld.belowG hB8) (fun hHeld => ?_)
        clear hK K
        try simp only [Act.put, List.setIfInBounds_toArray, List.set_cons_zero, List.set_cons_succ]
        refine wpAnyH_ready (rs := [10]) (by kernel_rfl) (by simp) ?_
        refine AllReadyH.cons (o := ⟨none, .store _ (.tmp 7) (.tmp 18), _, _, _, none⟩) rfl (fun K hK => ?_) AllReadyH.nil
        refine step_st 23 (.tmp 7) (.tmp 18) (by rfl) (by rfl) (by rfl) (f := 0) (by rfl) (l := bvs r) (by rfl) hz9 (by simp [zs8, len_bvs, Hrl.out]) (by rw [len_bvs, Hrl.out]; exact size25) (oneCell_bvs _) ?_
        intro w10 hz10 hG10
        have hr8 := hr8.keep (F' := fun b => b ≠ g9) (fun b hb hf => ⟨hf, hG10.block b hb (by intro e; injection e with e; exact hf e)⟩)
        rw [set25 _ Hrl.out] at hz10
        refine hK.out _ _ (hHeld.grow hG10 (fun k hk => .inr (by injection hk with hk; omega))) (fun hHeld => ?_)
        clear hK K
        try simp only [Act.put, List.setIfInBounds_toArray, List.set_cons_zero, List.set_cons_succ]
        refine wpAnyH_take (i := 11) (oi := ⟨some 8, _, _, _, _, none⟩) (v := ?_) rfl (by kernel_rfl) (by kernel_rfl) (by kernel_rfl) (fun _ _ _ h => h) (Or.inl ⟨by rfl, ?_⟩) (by assumption) ?_
        rotate_left
        · intro w hSw; go_simp; try with_reducible rfl
        try simp only [Act.put, List.setIfInBounds_toArray, List.set_cons_zero, List.set_cons_succ]
        refine wpAnyH_done (by kernel_rfl) ?_ _
        refine NoPanic.normal ?_
        go_wp2
        go_meet
        exact ⟨g9, rfl, hz10, hr8, hHeld.below⟩
      refine AllReadyH.cons (o := ⟨some 7, .alloc _, _, _, _, none⟩) rfl (fun K hK => ?_) AllReadyH.nil
      refine step_new 23 (by rfl) (by rfl) zero25 ?_
      intro g9 w9 hg9 hgl9 hz9 hB9
      have hg9 : wq.heap.size ≤ g9 := Nat.le_trans hHeld.size hg9
      refine hK.out _ _ (hHeld.belowG hB9) (fun hHeld => ?_)
      clear hK K
      try simp only [Act.put, List.setIfInBounds_toArray, List.set_cons_zero, List.set_cons_succ]
      refine wpAnyH_ready (rs := [5]) (by kernel_rfl) (by simp) ?_
      refine AllReadyH.cons (o := ⟨some 21, .buildSlice _ _ _, _, _, _, none⟩) rfl (fun K hK => ?_) AllReadyH.nil
      refine step_bs0 24 5 (by rfl) (by rfl) hbs ?_
      intro v5 w5 h5 hB5
      have hz5 := hHeld.size
      have h5 := own_base (b2 := wq.heap.size) h5 (by simpa using hz5)
      have hz9 := hz9.below hB5
      refine hK.out _ _ (hHeld.belowG hB5) (fun hHeld => ?_)
      clear hK K
      try simp only [Act.put, List.setIfInBounds_toArray, List.set_cons_zero, List.set_cons_succ]
      refine wpAnyH_ready (rs := [7]) (by kernel_rfl) (by simp) ?_
      refine AllReadyH.cons (o := ⟨some 23, _, _, _, _, none⟩) rfl (fun K hK => ?_) AllReadyH.nil
      have ht7 := HT.out _ hHeld
      have hzz := hHeld.size
      refine step_app (.tmp 21) (.tmp 22) slB (by rfl) (by rfl) (by rfl) h5 (by rfl) ht7.src (oneCell_bvs text) (by simp only [maxLen]; omega) (by omega) (by simpa using hzz) ?_
      intro v7 w7 h7 hG7
      rw [List.nil_append, Nat.zero_add] at h7
      have hz9 := hz9.keep (hG7.block _ hz9.lt (fun e => own_apart h5 hz9 (by decide) e.symm))
      have hr7 := Rd.of_own h7
      obtain ⟨A7, c7, rfl⟩ := own_shape h7
      refine hK.out _ _ (hHeld.grow hG7 (fun k hk => .inr ((h5.lt k hk).1))) (fun hHeld => ?_)
      clear hK K
      try simp only [Act.put, List.setIfInBounds_toArray, List.set_cons_zero, List.set_cons_succ]
      refine wpAnyH_ready (rs := [8]) (by kernel_rfl) (by simp) ?_
      refine AllReadyH.cons (o := ⟨some 24, _, _, _, _, none⟩) rfl (fun K hK => ?_) AllReadyH.nil
      go_simp
      refine (sign_any seed idx _ text _ _ (HKS.out _ hHeld) Hl.out h1 h2 hr7 (by omega)).mono ?_
      rintro e' w8 ⟨v8, rfl, hr8, hB8⟩
      have hr8 := hr8.weak (F' := fun b => b ≠ g9) (fun b _ hb hh => by have := hz9.lt; rw [hh] at hb; exact absurd hb (by omega))
      have hr7 := hr7.below hB8
      have hz9 := hz9.below hB8
      refine hK.out _ _ (hHeld.belowG hB8) (fun hHeld => ?_)
      clear hK K
      try simp only [Act.put, List.setIfInBounds_toArray, List.set_cons_zero, List.set_cons_succ]
      refine wpAnyH_ready (rs := [10]) (by kernel_rfl) (by simp) ?_
      refine AllReadyH.cons (o := ⟨none, .store _ (.tmp 7) (.tmp 18), _, _, _, none⟩) rfl (fun K hK => ?_) AllReadyH.nil
      refine step_st 23 (.tmp 7) (.tmp 18) (by rfl) (by rfl) (by rfl) (f := 0) (by rfl) (l := bvs r) (by rfl) hz9 (by simp [zs8, len_bvs, Hrl.out]) (by rw [len_bvs, Hrl.out]; exact size25) (oneCell_bvs _) ?_
      intro w10 hz10 hG10
      have hr8 := hr8.keep (F' := fun b => b ≠ g9) (fun b hb hf => ⟨hf, hG10.block b hb (by intro e; injection e with e; exact hf e)⟩)
      rw [set25 _ Hrl.out] at hz10
      refine hK.out _ _ (hHeld.grow hG10 (fun k hk => .inr (by injection hk with hk; omega))) (fun hHeld => ?_)
      clear hK K
      try simp only [Act.put, List.setIfInBounds_toArray, List.set_cons_zero, List.set_cons_succ]
      refine wpAnyH_take (i := 11) (oi := ⟨some 8, _, _, _, _, none⟩) (v := ?_) rfl (by kernel_rfl) (by kernel_rfl) (by kernel_rfl) (fun _ _ _ h => h) (Or.inl ⟨by rfl, ?_⟩) (by assumption) ?_
      rotate_left
      · intro w hSw; go_simp; try with_reducible rfl
      try simp only [Act.put, List.setIfInBounds_toArray, List.set_cons_zero, List.set_cons_succ]
      refine wpAnyH_done (by kernel_rfl) ?_ _
      refine NoPanic.normal ?_
      go_wp2
      go_meet
      exact ⟨g9, rfl, hz10, hr8, hHeld.below⟩
    refine AllReadyH.cons (o := ⟨some 21, .buildSlice _ _ _, _, _, _, none⟩) rfl (fun K hK => ?_) ?_
    · refine step_bs0 24 5 (by rfl) (by rfl) hbs ?_
      intro v5 w5 h5 hB5
      have hz5 := hHeld.size
      have h5 := own_base (b2 := wq.heap.size) h5 (by simp)
      refine hK.out _ _ (hHeld.belowG hB5) (fun hHeld => ?_)
      clear hK K
      try simp only [Act.put, List.setIfInBounds_toArray, List.set_cons_zero, List.set_cons_succ]
      refine wpAnyH_ready (rs := [2, 9]) (by kernel_rfl) (by simp) ?_
      refine AllReadyH.cons (o := ⟨some 18, _, _, _, _, none⟩) rfl (fun K hK => ?_) ?_
      · go_simp
        refine (public_any seed idx _ (HKS.out _ hHeld) Hl.out h1 h2).mono ?_
        rintro e' w2 ⟨rfl, hB2⟩
        rw [← Hr.out]
        have h5 := own_keepB h5 hB2
        refine hK.out _ _ (hHeld.belowG hB2) (fun hHeld => ?_)
        clear hK K
        try simp only [Act.put, List.setIfInBounds_toArray, List.set_cons_zero, List.set_cons_succ]
        refine wpAnyH_ready (rs := [7, 9]) (by kernel_rfl) (by simp) ?_
        refine AllReadyH.cons (o := ⟨some 23, _, _, _, _, none⟩) rfl (fun K hK => ?_) ?_
        · have ht7 := HT.out _ hHeld
          have hzz := hHeld.size
          refine step_app (.tmp 21) (.tmp 22) slB (by rfl) (by rfl) (by rfl) h5 (by rfl) ht7.src (oneCell_bvs text) (by simp only [maxLen]; omega) (by omega) (by simpa using hzz) ?_
          intro v7 w7 h7 hG7
          rw [List.nil_append, Nat.zero_add] at h7
          have hr7 := Rd.of_own h7
          obtain ⟨A7, c7, rfl⟩ := own_shape h7
          refine hK.out _ _ (hHeld.grow hG7 (fun k hk => .inr ((h5.lt k hk).1))) (fun hHeld => ?_)
          clear hK K
          try simp only [Act.put, List.setIfInBounds_toArray, List.set_cons_zero, List.set_cons_succ]
          refine wpAnyH_ready (rs := [8, 9]) (by kernel_rfl) (by simp) ?_
          refine AllReadyH.cons (o := ⟨some 24, _, _, _, _, none⟩) rfl (fun K hK => ?_) ?_
          · go_simp
            refine (sign_any seed idx _ text _ _ (HKS.out _ hHeld) Hl.out h1 h2 hr7 (by omega)).mono ?_
            rintro e' w8 ⟨v8, rfl, hr8, hB8⟩
            have hr8 := hr8.weak (F' := fun b => b < w8.heap.size) (fun b hb _ => hb)
            have hr7 := hr7.below hB8
            refine hK.out _ _ (hHeld.belowG hB8) (fun hHeld => ?_)
            clear hK K
            try simp only [Act.put, List.setIfInBounds_toArray, List.set_cons_zero, List.set_cons_succ]
            refine wpAnyH_ready (rs := [9]) (by kernel_rfl) (by simp) ?_
            refine AllReadyH.cons (o := ⟨some 7, .alloc _, _, _, _, none⟩) rfl (fun K hK => ?_) AllReadyH.nil
            refine step_new 23 (by rfl) (by rfl) zero25 ?_
            intro g9 w9 hg9 hgl9 hz9 hB9
            have hr8 := hr8.weak (F' := fun b => b ≠ g9) (fun b _ hb hh => by rw [hh] at hb; exact absurd hb (by omega))
            have hr8 := hr8.below hB9
            have hg9 : wq.heap.size ≤ g9 := Nat.le_trans hHeld.size hg9
            refine hK.out _ _ (hHeld.belowG hB9) (fun hHeld => ?_)
            clear hK K
            try simp only [Act.put, List.setIfInBounds_toArray, List.set_cons_zero, List.set_cons_succ]
            refine wpAnyH_ready (rs := [10]) (by kernel_rfl) (by simp) ?_
            refine AllReadyH.cons (o := ⟨none, .store _ (.tmp 7) (.tmp 18), _, _, _, none⟩) rfl (fun K hK => ?_) AllReadyH.nil
            refine step_st 23 (.tmp 7) (.tmp 18) (by rfl) (by rfl) (by rfl) (f := 0) (by rfl) (l := bvs r) (by rfl) hz9 (by simp [zs8, len_bvs, Hrl.out]) (by rw [len_bvs, Hrl.out]; exact size25) (oneCell_bvs _) ?_
            intro w10 hz10 hG10
            have hr8 := hr8.keep (F' := fun b => b ≠ g9) (fun b hb hf => ⟨hf, hG10.block b hb (by intro e; injection e with e; exact hf e)⟩)
            rw [set25 _ Hrl.out] at hz10
            refine hK.out _ _ (hHeld.grow hG10 (fun k hk => .inr (by injection hk with hk; omega))) (fun hHeld => ?_)
            clear hK K
            try simp only [Act.put, List.setIfInBounds_toArray, List.set_cons_zero, List.set_cons_succ]
            refine wpAnyH_take (i := 11) (oi := ⟨some 8, _, _, _, _, none⟩) (v := ?_) rfl (by kernel_rfl) (by kernel_rfl) (by kernel_rfl) (fun _ _ _ h => h) (Or.inl ⟨by rfl, ?_⟩) (by assumption) ?_
            rotate_left
            · intro w hSw; go_simp; try with_reducible rfl
            try simp only [Act.put, List.setIfInBounds_toArray, List.set_cons_zero, List.set_cons_succ]
            refine wpAnyH_done (by kernel_rfl) ?_ _
            refine NoPanic.normal ?_
            go_wp2
            go_meet
            exact ⟨g9, rfl, hz10, hr8, hHeld.below⟩
          refine AllReadyH.cons (o := ⟨some 7, .alloc _, _, _, _, none⟩) rfl (fun K hK => ?_) AllReadyH.nil
          refine step_new 23 (by rfl) (by rfl) zero25 ?_
          intro g9 w9 hg9 hgl9 hz9 hB9
          have hr7 := hr7.below hB9
          have hg9 : wq.heap.size ≤ g9 := Nat.le_trans hHeld.size hg9
          refine hK.out _ _ (hHeld.belowG hB9) (fun hHeld => ?_)
          clear hK K
          try simp only [Act.put, List.setIfInBounds_toArray, List.set_cons_zero, List.set_cons_succ]
          refine wpAnyH_ready (rs := [8]) (by kernel_rfl) (by simp) ?_
          refine AllReadyH.cons (o := ⟨some 24, _, _, _, _, none⟩) rfl (fun K hK => ?_) AllReadyH.nil
          go_simp
          refine (sign_any seed idx _ text _ _ (HKS.out _ hHeld) Hl.out h1 h2 hr7 (by omega)).mono ?_
          rintro e' w8 ⟨v8, rfl, hr8, hB8⟩
          have hr8 := hr8.weak (F' := fun b => b ≠ g9) (fun b _ hb hh => by have := hz9.lt; rw [hh] at hb; exact absurd hb (by omega))
          have hr7 := hr7.below hB8
          have hz9 := hz9.below hB8
          refine hK.out _ _ (hHeld.belowG hB8) (fun hHeld => ?_)
          clear hK K
          try simp only [Act.put, List.setIfInBounds_toArray, List.set_cons_zero, List.set_cons_succ]
          refine wpAnyH_ready (rs := [10]) (by kernel_rfl) (by simp) ?_
          refine AllReadyH.cons (o := ⟨none, .store _ (.tmp 7) (.tmp 18), _, _, _, none⟩) rfl (fun K hK => ?_) AllReadyH.nil
          refine step_st 23 (.tmp 7) (.tmp 18) (by rfl) (by rfl) (by rfl) (f := 0) (by rfl) (l := bvs r) (by rfl) hz9 (by simp [zs8, len_bvs, Hrl.out]) (by rw [len_bvs, Hrl.out]; exact size25) (oneCell_bvs _) ?_
          intro w10 hz10 hG10
          have hr8 := hr8.keep (F' := fun b => b ≠ g9) (fun b hb hf => ⟨hf, hG10.block b hb (by intro e; injection e with e; exact hf e)⟩)
          rw [set25 _ Hrl.out] at hz10
          refine hK.out _ _ (hHeld.grow hG10 (fun k hk => .inr (by injection hk with hk; omega))) (fun hHeld => ?_)
          clear hK K
          try simp only [Act.put, List.setIfInBounds_toArray, List.set_cons_zero, List.set_cons_succ]
          refine wpAnyH_take (i := 11) (oi := ⟨some 8, _, _, _, _, none⟩) (v := ?_) rfl (by kernel_rfl) (by kernel_rfl) (by kernel_rfl) (fun _ _ _ h => h) (Or.inl ⟨by rfl, ?_⟩) (by assumption) ?_
          rotate_left
          · intro w hSw; go_simp; try with_reducible rfl
          try simp only [Act.put, List.setIfInBounds_toArray, List.set_cons_zero, List.set_cons_succ]
          refine wpAnyH_done (by kernel_rfl) ?_ _
          refine NoPanic.normal ?_
          go_wp2
          go_meet
          exact ⟨g9, rfl, hz10, hr8, hHeld.below⟩
        refine AllReadyH.cons (o := ⟨some 7, .alloc _, _, _, _, none⟩) rfl (fun K hK => ?_) AllReadyH.nil
        refine step_new 23 (by rfl) (by rfl) zero25 ?_
        intro g9 w9 hg9 hgl9 hz9 hB9
        have h5 := own_keepB h5 hB9
        have hg9 : wq.heap.size ≤ g9 := Nat.le_trans hHeld.size hg9
        refine hK.out _ _ (hHeld.belowG hB9) (fun hHeld => ?_)
        clear hK K
        try simp only [Act.put, List.setIfInBounds_toArray, List.set_cons_zero, List.set_cons_succ]
        refine wpAnyH_ready (rs := [7]) (by kernel_rfl) (by simp) ?_
        refine AllReadyH.cons (o := ⟨some 23, _, _, _, _, none⟩) rfl (fun K hK => ?_) AllReadyH.nil
        have ht7 := HT.out _ hHeld
        have hzz := hHeld.size
        refine step_app (.tmp 21) (.tmp 22) slB (by rfl) (by rfl) (by rfl) h5 (by rfl) ht7.src (oneCell_bvs text) (by simp only [maxLen]; omega) (by omega) (by simpa using hzz) ?_
        intro v7 w7 h7 hG7
        rw [List.nil_append, Nat.zero_add] at h7
        have hz9 := hz9.keep (hG7.block _ hz9.lt (fun e => own_apart h5 hz9 (by decide) e.symm))
        have hr7 := Rd.of_own h7
        obtain ⟨A7, c7, rfl⟩ := own_shape h7
        refine hK.out _ _ (hHeld.grow hG7 (fun k hk => .inr ((h5.lt k hk).1))) (fun hHeld => ?_)
        clear hK K
        try simp only [Act.put, List.setIfInBounds_toArray, List.set_cons_zero, List.set_cons_succ]
        refine wpAnyH_ready (rs := [8]) (by kernel_rfl) (by simp) ?_
        refine AllReadyH.cons (o := ⟨some 24, _, _, _, _, none⟩) rfl (fun K hK => ?_) AllReadyH.nil
        go_simp
        refine (sign_any seed idx _ text _ _ (HKS.out _ hHeld) Hl.out h1 h2 hr7 (by omega)).mono ?_
        rintro e' w8 ⟨v8, rfl, hr8, hB8⟩
        have hr8 := hr8.weak (F' := fun b => b ≠ g9) (fun b _ hb hh => by have := hz9.lt; rw [hh] at hb; exact absurd hb (by omega))
        have hr7 := hr7.below hB8
        have hz9 := hz9.below hB8
        refine hK.out _ _ (hHeld.belowG hB8) (fun hHeld => ?_)
        clear hK K
        try simp only [Act.put, List.setIfInBounds_toArray, List.set_cons_zero, List.set_cons_succ]
        refine wpAnyH_ready (rs := [10]) (by kernel_rfl) (by simp) ?_
        refine AllReadyH.cons (o := ⟨none, .store _ (.tmp 7) (.tmp 18), _, _, _, none⟩) rfl (fun K hK => ?_) AllReadyH.nil
        refine step_st 23 (.tmp 7) (.tmp 18) (by rfl) (by rfl) (by rfl) (f := 0) (by rfl) (l := bvs r) (by rfl) hz9 (by simp [zs8, len_bvs, Hrl.out]) (by rw [len_bvs, Hrl.out]; exact size25) (oneCell_bvs _) ?_
        intro w10 hz10 hG10
        have hr8 := hr8.keep (F' := fun b => b ≠ g9) (fun b hb hf => ⟨hf, hG10.block b hb (by intro e; injection e with e; exact hf e)⟩)
        rw [set25 _ Hrl.out] at hz10
        refine hK.out _ _ (hHeld.grow hG10 (fun k hk => .inr (by injection hk with hk; omega))) (fun hHeld => ?_)
        clear hK K
        try simp only [Act.put, List.setIfInBounds_toArray, List.set_cons_zero, List.set_cons_succ]
        refine wpAnyH_take (i := 11) (oi := ⟨some 8, _, _, _, _, none⟩) (v := ?_) rfl (by kernel_rfl) (by kernel_rfl) (by kernel_rfl) (fun _ _ _ h => h) (Or.inl ⟨by rfl, ?_⟩) (by assumption) ?_
        rotate_left
        · intro w hSw; go_simp; try with_reducible rfl
        try simp only [Act.put, List.setIfInBounds_toArray, List.set_cons_zero, List.set_cons_succ]
        refine wpAnyH_done (by kernel_rfl) ?_ _
        refine NoPanic.normal ?_
        go_wp2
        go_meet
        exact ⟨g9, rfl, hz10, hr8, hHeld.below⟩
      refine AllReadyH.cons (o := ⟨some 7, .alloc _, _, _, _, none⟩) rfl (fun K hK => ?_) AllReadyH.nil
      refine step_new 23 (by rfl) (by rfl) zero25 ?_
      intro g9 w9 hg9 hgl9 hz9 hB9
      have h5 := own_keepB h5 hB9
      have hg9 : wq.heap.size ≤ g9 := Nat.le_trans hHeld.size hg9
      refine hK.out _ _ (hHeld.belowG hB9) (fun hHeld => ?_)
      clear hK K
      try simp only [Act.put, List.setIfInBounds_toArray, List.set_cons_zero, List.set_cons_succ]
      refine wpAnyH_ready (rs := [2]) (by kernel_rfl) (by simp) ?_
      refine AllReadyH.cons (o := ⟨some 18, _, _, _, _, none⟩) rfl (fun K hK => ?_) AllReadyH.nil
      go_simp
      refine (public_any seed idx _ (HKS.out _ hHeld) Hl.out h1 h2).mono ?_
      rintro e' w2 ⟨rfl, hB2⟩
      rw [← Hr.out]
      have h5 := own_keepB h5 hB2
      have hz9 := hz9.below hB2
      refine hK.out _ _ (hHeld.belowG hB2) (fun hHeld => ?_)
      clear hK K
      try simp only [Act.put, List.setIfInBounds_toArray, List.set_cons_zero, List.set_cons_succ]
      refine wpAnyH_ready (rs := [7]) (by kernel_rfl) (by simp) ?_
      refine AllReadyH.cons (o := ⟨some 23, _, _, _, _, none⟩) rfl (fun K hK => ?_) AllReadyH.nil
      have ht7 := HT.out _ hHeld
      have hzz := hHeld.size
      refine step_app (.tmp 21) (.tmp 22) slB (by rfl) (by rfl) (by rfl) h5 (by rfl) ht7.src (oneCell_bvs text) (by simp only [maxLen]; omega) (by omega) (by simpa using hzz) ?_
      intro v7 w7 h7 hG7
      rw [List.nil_append, Nat.zero_add] at h7
      have hz9 := hz9.keep (hG7.block _ hz9.lt (fun e => own_apart h5 hz9 (by decide) e.symm))
      have hr7 := Rd.of_own h7
      obtain ⟨A7, c7, rfl⟩ := own_shape h7
      refine hK.out _ _ (hHeld.grow hG7 (fun k hk => .inr ((h5.lt k hk).1))) (fun hHeld => ?_)
      clear hK K
      try simp only [Act.put, List.setIfInBounds_toArray, List.set_cons_zero, List.set_cons_succ]
      refine wpAnyH_ready (rs := [8]) (by kernel_rfl) (by simp) ?_
      refine AllReadyH.cons (o := ⟨some 24, _, _, _, _, none⟩) rfl (fun K hK => ?_) AllReadyH.nil
      go_simp
      refine (sign_any seed idx _ text _ _ (HKS.out _ hHeld) Hl.out h1 h2 hr7 (by omega)).mono ?_
      rintro e' w8 ⟨v8, rfl, hr8, hB8⟩
      have hr8 := hr8.weak (F' := fun b => b ≠ g9) (fun b _ hb hh => by have := hz9.lt; rw [hh] at hb; exact absurd hb (by omega))
      have hr7 := hr7.below hB8
      have hz9 := hz9.below hB8
      refine hK.out _ _ (hHeld.belowG hB8) (fun hHeld => ?_)
      clear hK K
      try simp only [Act.put, List.setIfInBounds_toArray, List.set_cons_zero, List.set_cons_succ]
      refine wpAnyH_ready (rs := [10]) (by kernel_rfl) (by simp) ?_
      refine AllReadyH.cons (o := ⟨none, .store _ (.tmp 7) (.tmp 18), _, _, _, none⟩) rfl (fun K hK => ?_) AllReadyH.nil
      refine step_st 23 (.tmp 7) (.tmp 18) (by rfl) (by rfl) (by rfl) (f := 0) (by rfl) (l := bvs r) (by rfl) hz9 (by simp [zs8, len_bvs, Hrl.out]) (by rw [len_bvs, Hrl.out]; exact size25) (oneCell_bvs _) ?_
      intro w10 hz10 hG10
      have hr8 := hr8.keep (F' := fun b => b ≠ g9) (fun b hb hf => ⟨hf, hG10.block b hb (by intro e; injection e with e; exact hf e)⟩)
      rw [set25 _ Hrl.out] at hz10
      refine hK.out _ _ (hHeld.grow hG10 (fun k hk => .inr (by injection hk with hk; omega))) (fun hHeld => ?_)
      clear hK K
      try simp only [Act.put, List.setIfInBounds_toArray, List.set_cons_zero, List.set_cons_succ]
      refine wpAnyH_take (i := 11) (oi := ⟨some 8, _, _, _, _, none⟩) (v := ?_) rfl (by kernel_rfl) (by kernel_rfl) (by kernel_rfl) (fun _ _ _ h => h) (Or.inl ⟨by rfl, ?_⟩) (by assumption) ?_
      rotate_left
      · intro w hSw; go_simp; try with_reducible rfl
      try simp only [Act.put, List.setIfInBounds_toArray, List.set_cons_zero, List.set_cons_succ]
      refine wpAnyH_done (by kernel_rfl) ?_ _
      refine NoPanic.normal ?_
      go_wp2
      go_meet
      exact ⟨g9, rfl, hz10, hr8, hHeld.below⟩
    refine AllReadyH.cons (o := ⟨some 7, .alloc _, _, _, _, none⟩) rfl (fun K hK => ?_) AllReadyH.nil
    refine step_new 23 (by rfl) (by rfl) zero25 ?_
    intro g9 w9 hg9 hgl9 hz9 hB9
    have hg9 : wq.heap.size ≤ g9 := Nat.le_trans hHeld.size hg9
    refine hK.out _ _ (hHeld.belowG hB9) (fun hHeld => ?_)
    clear hK K
    try simp only [Act.put, List.setIfInBounds_toArray, List.set_cons_zero, List.set_cons_succ]
    refine wpAnyH_ready (rs := [2, 5]) (by kernel_rfl) (by simp) ?_
    refine AllReadyH.cons (o := ⟨some 18, _, _, _, _, none⟩) rfl (fun K hK => ?_) ?_
    · go_simp
      refine (public_any seed idx _ (HKS.out _ hHeld) Hl.out h1 h2).mono ?_
      rintro e' w2 ⟨rfl, hB2⟩
      rw [← Hr.out]
      have hz9 := hz9.below hB2
      refine hK.out _ _ (hHeld.belowG hB2) (fun hHeld => ?_)
      clear hK K
      try simp only [Act.put, List.setIfInBounds_toArray, List.set_cons_zero, List.set_cons_succ]
      refine wpAnyH_ready (rs := [5]) (by kernel_rfl) (by simp) ?_
      refine AllReadyH.cons (o := ⟨some 21, .buildSlice _ _ _, _, _, _, none⟩) rfl (fun K hK => ?_) AllReadyH.nil
      refine step_bs0 24 5 (by rfl) (by rfl) hbs ?_
      intro v5 w5 h5 hB5
      have hz5 := hHeld.size
      have h5 := own_base (b2 := wq.heap.size) h5 (by simpa using hz5)
      have hz9 := hz9.below hB5
      refine hK.out _ _ (hHeld.belowG hB5) (fun hHeld => ?_)
      clear hK K
      try simp only [Act.put, List.setIfInBounds_toArray, List.set_cons_zero, List.set_cons_succ]
      refine wpAnyH_ready (rs := [7]) (by kernel_rfl) (by simp) ?_
      refine AllReadyH.cons (o := ⟨some 23, _, _, _, _, none⟩) rfl (fun K hK => ?_) AllReadyH.nil
      have ht7 := HT.out _ hHeld
      have hzz := hHeld.size
      refine step_app (.tmp 21) (.tmp 22) slB (by rfl) (by rfl) (by rfl) h5 (by rfl) ht7.src (oneCell_bvs text) (by simp only [maxLen]; omega) (by omega) (by simpa using hzz) ?_
      intro v7 w7 h7 hG7
      rw [List.nil_append, Nat.zero_add] at h7
      have hz9 := hz9.keep (hG7.block _ hz9.lt (fun e => own_apart h5 hz9 (by decide) e.symm))
      have hr7 := Rd.of_own h7
      obtain ⟨A7, c7, rfl⟩ := own_shape h7
      refine hK.out _ _ (hHeld.grow hG7 (fun k hk => .inr ((h5.lt k hk).1))) (fun hHeld => ?_)
      clear hK K
      try simp only [Act.put, List.setIfInBounds_toArray, List.set_cons_zero, List.set_cons_succ]
      refine wpAnyH_ready (rs := [8]) (by kernel_rfl) (by simp) ?_
      refine AllReadyH.cons (o := ⟨some 24, _, _, _, _, none⟩) rfl (fun K hK => ?_) AllReadyH.nil
      go_simp
      refine (sign_any seed idx _ text _ _ (HKS.out _ hHeld) Hl.out h1 h2 hr7 (by omega)).mono ?_
      rintro e' w8 ⟨v8, rfl, hr8, hB8⟩
      have hr8 := hr8.weak (F' := fun b => b ≠ g9) (fun b _ hb hh => by have := hz9.lt; rw [hh] at hb; exact absurd hb (by omega))
      have hr7 := hr7.below hB8
      have hz9 := hz9.below hB8
      refine hK.out _ _ (hHeld.belowG hB8) (fun hHeld => ?_)
      clear hK K
      try simp only [Act.put, List.setIfInBounds_toArray, List.set_cons_zero, List.set_cons_succ]
      refine wpAnyH_ready (rs := [10]) (by kernel_rfl) (by simp) ?_
      refine AllReadyH.cons (o := ⟨none, .store _ (.tmp 7) (.tmp 18), _, _, _, none⟩) rfl (fun K hK => ?_) AllReadyH.nil
      refine step_st 23 (.tmp 7) (.tmp 18) (by rfl) (by rfl) (by rfl) (f := 0) (by rfl) (l := bvs r) (by rfl) hz9 (by simp [zs8, len_bvs, Hrl.out]) (by rw [len_bvs, Hrl.out]; exact size25) (oneCell_bvs _) ?_
      intro w10 hz10 hG10
      have hr8 := hr8.keep (F' := fun b => b ≠ g9) (fun b hb hf => ⟨hf, hG10.block b hb (by intro e; injection e with e; exact hf e)⟩)
      rw [set25 _ Hrl.out] at hz10
      refine hK.out _ _ (hHeld.grow hG10 (fun k hk => .inr (by injection hk with hk; omega))) (fun hHeld => ?_)
      clear hK K
      try simp only [Act.put, List.setIfInBounds_toArray, List.set_cons_zero, List.set_cons_succ]
      refine wpAnyH_take (i := 11) (oi := ⟨some 8, _, _, _, _, none⟩) (v := ?_) rfl (by kernel_rfl) (by kernel_rfl) (by kernel_rfl) (fun _ _ _ h => h) (Or.inl ⟨by rfl, ?_⟩) (by assumption) ?_
      rotate_left
      · intro w hSw; go_simp; try with_reducible rfl
      try simp only [Act.put, List.setIfInBounds_toArray, List.set_cons_zero, List.set_cons_succ]
      refine wpAnyH_done (by kernel_rfl) ?_ _
      refine NoPanic.normal ?_
      go_wp2
      go_meet
      exact ⟨g9, rfl, hz10, hr8, hHeld.below⟩
    refine AllReadyH.cons (o := ⟨some 21, .buildSlice _ _ _, _, _, _, none⟩) rfl (fun K hK => ?_) AllReadyH.nil
    refine step_bs0 24 5 (by rfl) (by rfl) hbs ?_
    intro v5 w5 h5 hB5
    have hz5 := hHeld.size
    have h5 := own_base (b2 := wq.heap.size) h5 (by simpa using hz5)
    have hz9 := hz9.below hB5
    refine hK.out _ _ (hHeld.belowG hB5) (fun hHeld => ?_)
    clear hK K
    try simp only [Act.put, List.setIfInBounds_toArray, List.set_cons_zero, List.set_cons_succ]
    refine wpAnyH_ready (rs := [2]) (by kernel_rfl) (by simp) ?_
    refine AllReadyH.cons (o := ⟨some 18, _, _, _, _, none⟩) rfl (fun K hK => ?_) AllReadyH.nil
    go_simp
    refine (public_any seed idx _ (HKS.out _ hHeld) Hl.out h1 h2).mono ?_
    rintro e' w2 ⟨rfl, hB2⟩
    rw [← Hr.out]
    have h5 := own_keepB h5 hB2
    have hz9 := hz9.below hB2
    refine hK.out _ _ (hHeld.belowG hB2) (fun hHeld => ?_)
    clear hK K
    try simp only [Act.put, List.setIfInBounds_toArray, List.set_cons_zero, List.set_cons_succ]
    refine wpAnyH_ready (rs := [7]) (by kernel_rfl) (by simp) ?_
    refine AllReadyH.cons (o := ⟨some 23, _, _, _, _, none⟩) rfl (fun K hK => ?_) AllReadyH.nil
    have ht7 := HT.out _ hHeld
    have hzz := hHeld.size
    refine step_app (.tmp 21) (.tmp 22) slB (by rfl) (by rfl) (by rfl) h5 (by rfl) ht7.src (oneCell_bvs text) (by simp only [maxLen]; omega) (by omega) (by simpa using hzz) ?_
    intro v7 w7 h7 hG7
    rw [List.nil_append, Nat.zero_add] at h7
    have hz9 := hz9.keep (hG7.block _ hz9.lt (fun e => own_apart h5 hz9 (by decide) e.symm))
    have hr7 := Rd.of_own h7
    obtain ⟨A7, c7, rfl⟩ := own_shape h7
    refine hK.out _ _ (hHeld.grow hG7 (fun k hk => .inr ((h5.lt k hk).1))) (fun hHeld => ?_)
    clear hK K
    try simp only [Act.put, List.setIfInBounds_toArray, List.set_cons_zero, List.set_cons_succ]
    refine wpAnyH_ready (rs := [8]) (by kernel_rfl) (by simp) ?_
    refine AllReadyH.cons (o := ⟨some 24, _, _, _, _, none⟩) rfl (fun K hK => ?_) AllReadyH.nil
    go_simp
    refine (sign_any seed idx _ text _ _ (HKS.out _ hHeld) Hl.out h1 h2 hr7 (by omega)).mono ?_
    rintro e' w8 ⟨v8, rfl, hr8, hB8⟩
    have hr8 := hr8.weak (F' := fun b => b ≠ g9) (fun b _ hb hh => by have := hz9.lt; rw [hh] at hb; exact absurd hb (by omega))
    have hr7 := hr7.below hB8
    have hz9 := hz9.below hB8
    refine hK.out _ _ (hHeld.belowG hB8) (fun hHeld => ?_)
    clear hK K
    try simp only [Act.put, List.setIfInBounds_toArray, List.set_cons_zero, List.set_cons_succ]
    refine wpAnyH_ready (rs := [10]) (by kernel_rfl) (by simp) ?_
    refine AllReadyH.cons (o := ⟨none, .store _ (.tmp 7) (.tmp 18), _, _, _, none⟩) rfl (fun K hK => ?_) AllReadyH.nil
    refine step_st 23 (.tmp 7) (.tmp 18) (by rfl) (by rfl) (by rfl) (f := 0) (by rfl) (l := bvs r) (by rfl) hz9 (by simp [zs8, len_bvs, Hrl.out]) (by rw [len_bvs, Hrl.out]; exact size25) (oneCell_bvs _) ?_
    intro w10 hz10 hG10
    have hr8 := hr8.keep (F' := fun b => b ≠ g9) (fun b hb hf => ⟨hf, hG10.block b hb (by intro e; injection e with e; exact hf e)⟩)
    rw [set25 _ Hrl.out] at hz10
    refine hK.out _ _ (hHeld.grow hG10 (fun k hk => .inr (by injection hk with hk; omega))) (fun hHeld => ?_)
    clear hK K
    try simp only [Act.put, List.setIfInBounds_toArray, List.set_cons_zero, List.set_cons_succ]
    refine wpAnyH_take (i := 11) (oi := ⟨some 8, _, _, _, _, none⟩) (v := ?_) rfl (by kernel_rfl) (by kernel_rfl) (by kernel_rfl) (fun _ _ _ h => h) (Or.inl ⟨by rfl, ?_⟩) (by assumption) ?_
    rotate_left
    · intro w hSw; go_simp; try with_reducible rfl
    try simp only [Act.put, List.setIfInBounds_toArray, List.set_cons_zero, List.set_cons_succ]
    refine wpAnyH_done (by kernel_rfl) ?_ _
    refine NoPanic.normal ?_
    go_wp2
    go_meet
    exact ⟨g9, rfl, hz10, hr8, hHeld.below⟩
  case rest =>
    obtain ⟨g, rfl, hz, hr8, hB2⟩ := hcut
    rw [← Hsg.out] at hr8
    obtain ⟨A8, c8, rfl⟩ := hr8.shape
    obtain ⟨wr, hwr⟩ : ∃ wr, wr = wc := ⟨_, rfl⟩
    subst hwr
    have hB2' := hB1'.trans (hB2.mono hB1'.size)
    have hsr := HSQ.out.below hB2
    have htr := ht.below hB2'
    have HZ : Hid (∀ W, Ch nob wr W → W.rangeAt g 0 (bvs r)) := fun W h => hz.chAt (fun h => h) h
    have HSD2 : Hid (∀ W, Ch nob wr W → W.rangeAt b3 0 (bvs seed)) := fun W h => hsr.chAt (fun h => h) h
    have HT2 : Hid (∀ W, Ch nob wr W → Rd W F (.slice A text.length c) (bys text)) := fun W h => htr.ext h
    have HSG : Hid (∀ W, Ch nob wr W → Rd W _ (.slice A8 sg.length c8) (bys sg)) := fun W h => hr8.ext h
    have heq := eqH4 r r Hrl.out Hrl.out
    rw [beq_self_eq_true] at heq
    have HZZ := hid hz
    clear hsr htr hz hB hB1 HSQ hbs
    go_wp2
    refine wp_region_noPanic ?_
    refine wp_region_held_drew (S := Ch nob wr) (by kernel_rfl) ((Ch.refl _ _).drew) (fun hHeld => ?_)
    refine wpAnyH_take (i := 0) (oi := ⟨some 25, .load 23 (.tmp 7), _, _, _, none⟩) (v := _) rfl (by kernel_rfl) (by kernel_rfl) (by kernel_rfl) (fun _ _ _ h => h) (yieldsIf_load_mid (by rfl) 23 (.tmp 7) (by rfl) _ (0) (by rfl) _ _ (fun _ hs => HZ.out _ hs) und25 rfl (by rw [len_bvs, Hrl.out]; exact size25)) (by assumption) ?_
    try simp only [Act.put, List.setIfInBounds_toArray, List.set_cons_zero, List.set_cons_succ]
    refine wpAnyH_take (i := 1) (oi := ⟨some 26, .load 23 (.tmp 3), _, _, _, none⟩) (v := _) rfl (by kernel_rfl) (by kernel_rfl) (by kernel_rfl) (fun _ _ _ h => h) (yieldsIf_load_mid (by rfl) 23 (.tmp 3) (by rfl) _ (0) (by rfl) _ _ (fun _ hs => HSD2.out _ hs) und25 rfl (by rw [len_bvs, Hl.out]; exact size25)) (by assumption) ?_
    try simp only [Act.put, List.setIfInBounds_toArray, List.set_cons_zero, List.set_cons_succ]
    refine wpAnyH_take (i := 2) (oi := ⟨some 27, _, _, _, _, none⟩) (v := ?_) rfl (by kernel_rfl) (by kernel_rfl) (by kernel_rfl) (fun _ _ _ h => h) (Or.inl ⟨by rfl, ?_⟩) (by assumption) ?_
    rotate_left
    · intro w hSw; go_simp; try with_reducible rfl
    try simp only [Act.put, List.setIfInBounds_toArray, List.set_cons_zero, List.set_cons_succ]
    refine wpAnyH_ready (rs := [3]) (by kernel_rfl) (by simp) ?_
    refine AllReadyH.cons (o := ⟨some 28, _, _, _, _, none⟩) rfl (fun K hK => ?_) AllReadyH.nil
    go_simp
    refine (rpublic_any seed idx _ Hl.out h1 h2).mono ?_
    rintro e' w11 ⟨rfl, hB11⟩
    rw [← Hr.out]
    have hC11 := hHeld.belowG hB11
    refine hK.out _ _ (hC11) (fun hHeld => ?_)
    clear hK K
    try simp only [Act.put, List.setIfInBounds_toArray, List.set_cons_zero, List.set_cons_succ]
    refine wpAnyH_take (i := 4) (oi := ⟨some 29, _, _, _, _, none⟩) (v := ?_) rfl (by kernel_rfl) (by kernel_rfl) (by kernel_rfl) (fun _ _ _ h => h) (Or.inl ⟨by rfl, ?_⟩) (by assumption) ?_
    rotate_left
    · intro w hSw; go_simp; try with_reducible rfl
    try simp only [Act.put, List.setIfInBounds_toArray, List.set_cons_zero, List.set_cons_succ]
    refine wpAnyH_take (i := 5) (oi := ⟨some 30, _, _, _, _, none⟩) (v := ?_) rfl (by kernel_rfl) (by kernel_rfl) (by kernel_rfl) (fun _ _ _ h => h) (Or.inl ⟨by rfl, ?_⟩) (by assumption) ?_
    rotate_left
    · intro w hSw; go_simp; try with_reducible rfl
    try simp only [Act.put, List.setIfInBounds_toArray, List.set_cons_zero, List.set_cons_succ]
    refine wpAnyH_take (i := 6) (oi := ⟨some 31, _, _, _, _, some (5, false)⟩) (v := ?_) rfl (by kernel_rfl) (by kernel_rfl) (by kernel_rfl) (fun _ _ _ h => h) (Or.inl ⟨by rfl, ?_⟩) (by assumption) ?_
    rotate_left
    · intro w hSw; go_simp; try with_reducible rfl
    try simp only [Act.put, List.setIfInBounds_toArray, List.set_cons_zero, List.set_cons_succ]
    refine wpAnyH_take (i := 7) (oi := ⟨some 32, .load 23 (.tmp 3), _, _, _, some (5, false)⟩) (v := _) rfl (by kernel_rfl) (by kernel_rfl) (by kernel_rfl) (fun _ _ _ h => h) (yieldsIf_load_mid (by rfl) 23 (.tmp 3) (by rfl) _ (0) (by rfl) _ _ (fun _ hs => HSD2.out _ hs) und25 rfl (by rw [len_bvs, Hl.out]; exact size25)) (by assumption) ?_
    try simp only [Act.put, List.setIfInBounds_toArray, List.set_cons_zero, List.set_cons_succ]
    refine wpAnyH_take (i := 8) (oi := ⟨some 33, _, _, _, _, some (5, false)⟩) (v := ?_) rfl (by kernel_rfl) (by kernel_rfl) (by kernel_rfl) (fun _ _ _ h => h) (Or.inl ⟨by rfl, ?_⟩) (by assumption) ?_
    rotate_left
    · intro w hSw; go_simp; try with_reducible rfl
    try simp only [Act.put, List.setIfInBounds_toArray, List.set_cons_zero, List.set_cons_succ]
    refine wpAnyH_take (i := 9) (oi := ⟨some 34, _, _, _, _, some (5, false)⟩) (v := ?_) rfl (by kernel_rfl) (by kernel_rfl) (by kernel_rfl) (fun _ _ _ h => h) (Or.inl ⟨by rfl, ?_⟩) (by assumption) ?_
    rotate_left
    · intro w hSw; go_simp; try with_reducible rfl
    try simp only [Act.put, List.setIfInBounds_toArray, List.set_cons_zero, List.set_cons_succ]
    refine wpAnyH_ready (rs := [10]) (by kernel_rfl) (by simp) ?_
    refine AllReadyH.cons (o := ⟨some 35, _, _, _, _, some (5, false)⟩) rfl (fun K hK => ?_) AllReadyH.nil
    go_simp
    refine (rsign_any seed idx _ text _ _ Hl.out h1 h2 (HT2.out _ hC11) (by omega)).mono ?_
    rintro e' w12 ⟨v12, rfl, hn12⟩
    have hC12 := hC11.belowG hn12.2
    refine hK.out _ _ (hC12) (fun hHeld => ?_)
    clear hK K
    try simp only [Act.put, List.setIfInBounds_toArray, List.set_cons_zero, List.set_cons_succ]
    refine wpAnyH_ready (rs := [11]) (by kernel_rfl) (by simp) ?_
    refine AllReadyH.cons (o := ⟨some 36, _, _, _, _, some (5, false)⟩) rfl (fun K hK => ?_) AllReadyH.nil
    go_simp
    refine (same_b _ _ sg sg _ _ _ (HSG.out _ hC12) (by rw [Hsg.out]; exact hn12.rd)).mono ?_
    rintro e' w13 ⟨rfl, hB13⟩
    rw [decide_eq_true rfl]
    have hC13 := hC12.belowG hB13
    refine hK.out _ _ (hC13) (fun hHeld => ?_)
    clear hK K
    try simp only [Act.put, List.setIfInBounds_toArray, List.set_cons_zero, List.set_cons_succ]
    refine wpAnyH_take (i := 12) (oi := ⟨some 37, _, _, _, _, some (5, false)⟩) (v := ?_) rfl (by kernel_rfl) (by kernel_rfl) (by kernel_rfl) (fun _ _ _ h => h) (Or.inl ⟨by rfl, ?_⟩) (by assumption) ?_
    rotate_left
    · intro w hSw; go_simp; try with_reducible rfl
    try simp only [Act.put, List.setIfInBounds_toArray, List.set_cons_zero, List.set_cons_succ]
    refine wpAnyH_take (i := 13) (oi := ⟨some 38, _, _, _, _, none⟩) (v := ?_) rfl (by kernel_rfl) (by kernel_rfl) (by kernel_rfl) (fun _ _ _ h => h) (Or.inl ⟨by rfl, ?_⟩) (by assumption) ?_
    rotate_left
    · intro w hSw; go_simp; try with_reducible rfl
    try simp only [Act.put, List.setIfInBounds_toArray, List.set_cons_zero, List.set_cons_succ]
    refine wpAnyH_done (by kernel_rfl) ?_ _
    refine NoPanic.normal ?_
    have hz3 := HZZ.out.below hC13.below
    have hr3 := HSG.out _ hC13
    have ht3 := HT2.out _ hC13
    have hB3 := hB2'.trans (hC13.below.mono hB2'.size)
    go_wp2_with (fail)
    ((with_reducible refine (recover_any _ _ text sg _ _ _ (hK.below hB3) ht3 hr3 (by omega)).mono ?_))
    rintro e w14 ⟨rfl, hB14⟩
    have hB14' := hB3.trans (hB14.mono hB3.size)
    have hz4 := hz3.below hB14
    have hre : Hid (recE sg = 0) := if_pos Hsl.out
    have hrh : Hid (recH text sg = r) := by
      show _ = _
      unfold recH
      rw [if_pos Hsl.out, Hsg.out, rec_sig, Hr.out]
    rw [hre.out, hrh.out]
    have hn9 := Blk.new' w14 23 (zs8 32)
    have hB15 := hB14'.alloc hB14'.size (.cells (zs8 32).toArray 23)
    have hz5 := hz4.alloc (.cells (zs8 32).toArray 23)
    have hz4l := hz4.lt
    go_wp2_with (first | (refine wp_new 23 rfl rfl zero25 ?_) | (refine wp_st (o := ⟨none, .store _ (.tmp 9) (.tmp 43), _, _, _, none⟩) 23 (.tmp 9) (.tmp 43) rfl rfl rfl (f := 0) rfl (l := bvs r) rfl hn9 (by simp [zs8, len_bvs, Hrl.out]) (by rw [len_bvs, Hrl.out]; exact size25) (oneCell_bvs _) ?_; intro w16 hb16 hG16; refine wp_stop ?_))
    rw [set25 _ Hrl.out] at hb16
    have hB16 := hB15.grown hG16 hB15.size (by intro k hk; injection hk with hk; have := hB14'.size; omega)
    have hz6 := hz5.keep (hG16.block _ hz5.lt (by intro e; injection e with e; omega))
    refine wp_go ?_
    go_wp2_with (with_reducible refine wp_at 48 rfl ?_)
    refine wp_on ?_
    refine wp_ldg 23 (.tmp 9) (by rfl) rfl rfl hb16.whole und25 rfl (by rw [len_bvs, Hrl.out]; exact size25) ?_
    refine wp_ldg 23 (.tmp 7) (by rfl) rfl rfl hz6.whole und25 rfl (by rw [len_bvs, Hrl.out]; exact size25) ?_
    go_wp2
    go_ret
    exact ⟨rfl, hB16⟩
end Go.Proofs.YtigojjdoacfdgaaDoor
