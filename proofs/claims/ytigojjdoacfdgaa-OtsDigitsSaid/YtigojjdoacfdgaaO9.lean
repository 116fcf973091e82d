/- O9: layer 4: the law OtsDigits. -/
import Derived.Test.YtigojjdoacfdgaaO5
import Derived.Test.YtigojjdoacfdgaaO8
import Derived.Deep.DeepCutAuto
namespace Go.Proofs.Ytigojjdoacfdgaa
open Go.RowKit Go.V
set_option maxRecDepth 100000 in
set_option maxHeartbeats 1000000 in
theorem same4_any (D : List Nat) (v : Value) (base : Nat) (w : World) (hD : D.length = 35) (ho : w.ownsRow base 3 1 v 35 (ivs D)) :
    Calls Try.prog 6 #[.agg (ivs D).toArray, v] w fun e w' => e = .returned (.bool true) ∧ Below w.heap.size w w' := by
  obtain ⟨g, c, rfl, hg, hgl, hc⟩ := own_ivs ho (by omega)
  have HC := hid hc
  have HD := hid hD
  clear hc hD ho
  have hb := Blk.new' w 25 (ivs D)
  have hB := (Below.refl w.heap.size w).alloc (Nat.le_refl _) (.cells (ivs D).toArray 25)
  have hn : ((35 : Int) != 35) = false := by decide
  go_enter Try.func6, Try.ntmps6
  go_wp2_with (fail)
  obtain ⟨w0, hw0⟩ : ∃ w0, w0 = w.alloc (.cells (ivs D).toArray 25) := ⟨_, rfl⟩
  rw [← hw0] at hb hB ⊢
  clear hw0 hn
  obtain ⟨g2, hg2⟩ : ∃ g, g = w.heap.size := ⟨_, rfl⟩
  rw [← hg2] at hb ⊢
  have Hg2 := hid hg2
  clear hg2
  go_loopw [9] (fun iv wr => ∃ (i n : Nat), i ≤ 35 ∧ iv = .int .i64 i ∧ wr = w0.drewN n) (fun iv _ => 35 - (intOf iv).toNat)
  case atStart => exact ⟨0, 0, by omega, rfl, rfl⟩
  case round =>
    obtain ⟨i, n, hi, rfl, rfl⟩ := hrel
    by_cases hil : i < 35
    · obtain ⟨x, hx⟩ : ∃ x, D[i]? = some x := ⟨_, List.getElem?_eq_getElem (by rw [HD.out]; exact hil)⟩
      have c1 := hb.cellAt i _ (ivs_at D i x hx)
      have c2 := (World.cell?_of_block (hB.block g (by have := Hg2.out; omega))).trans (HC.out i x hx)
      clear hb hB
      have hne : ((x : Int) != (x : Int)) = false := by simp
      clear hx
      go_wp2
      go_quiet (fail)
      go_wp2
      go_roundw
      case rel => exact ⟨i + 1, _, by omega, by go_num, rfl⟩
      case measure => simp [intOf]; omega
    · go_wp2
      go_ret
      exact ⟨rfl, below_drewN hB _⟩
set_option maxRecDepth 100000 in
set_option maxHeartbeats 4000000 in
theorem otsDigits_law (a b : List UInt8) (w : World) (ha : a.length = 32) (hb : b.length = 32) :
    Calls Try.prog 3 #[.agg (bvs a).toArray, .agg (bvs b).toArray] w fun e w' => e = .returned (.bool true) ∧ Below w.heap.size w w' := by
  have hlaw1 := hid (anyLt_law a b (by omega) (by omega))
  have hlaw2 : Hid (anyNe a b 16 = anyLt (digF b) (digF a) 35) := by show _ = _; rw [anyNe_comm]; exact anyLt_law b a (by omega) (by omega)
  have Ha := hid ha
  have Hb := hid hb
  obtain ⟨D, hD⟩ : ∃ D, D = digF a := ⟨_, rfl⟩
  obtain ⟨E, hE⟩ : ∃ E, E = digF b := ⟨_, rfl⟩
  have HDl : Hid (D.length = 35) := by show _ = _; rw [hD]; exact len_dig _ (by omega)
  have HEl : Hid (E.length = 35) := by show _ = _; rw [hE]; exact len_dig _ (by omega)
  rw [← hD, ← hE] at hlaw1
  rw [← hD, ← hE] at hlaw2
  have HD := hid hD
  have HE := hid hE
  clear ha hb hD hE
  have hba := (Blk.new' w 23 (bvs a)).alloc (.cells (bvs b).toArray 23)
  have hbb := Blk.new' (w.alloc (.cells (bvs a).toArray 23)) 23 (bvs b)
  have hB := ((Below.refl w.heap.size w).alloc (Nat.le_refl _) (.cells (bvs a).toArray 23)).alloc (by simp) (.cells (bvs b).toArray 23)
  rw [show (w.alloc (.cells (bvs a).toArray 23)).heap.size = w.heap.size + 1 from by simp] at hbb
  go_enter Try.func3, Try.ntmps3
  go_wp2_with (fail)
  obtain ⟨w0, hw0⟩ : ∃ w0, w0 = (w.alloc (.cells (bvs a).toArray 23)).alloc (.cells (bvs b).toArray 23) := ⟨_, rfl⟩
  rw [← hw0] at hba hbb hB ⊢
  clear hw0
  obtain ⟨g2, hg2⟩ : ∃ g, g = w.heap.size := ⟨_, rfl⟩
  rw [← hg2] at hba hbb ⊢
  obtain ⟨g3, hg3⟩ : ∃ g, g = g2 + 1 := ⟨_, rfl⟩
  rw [← hg3] at hbb ⊢
  have Hg2 := hid hg2
  have Hg3 := hid hg3
  clear hg2 hg3
  refine (wakes4_any _).mono ?_
  rintro e wq ⟨rfl, hB1⟩
  have hB1' := hB.trans (hB1.mono hB.size)
  have hqa := hba.below hB1
  have hqb := hbb.below hB1
  have HA : Hid (∀ W, Ch nob wq W → W.rangeAt g2 0 (bvs a)) := fun W h => hqa.chAt (fun h => h) h
  have HB : Hid (∀ W, Ch nob wq W → W.rangeAt g3 0 (bvs b)) := fun W h => hqb.chAt (fun h => h) h
  have HQA := hid hqa
  have HQB := hid hqb
  clear hba hbb hB hB1 hqa hqb
  go_upto_region 3 with (fail)
  go_cut [5, 6] (fun s5 s6 wx => ∃ g4 g5, s5 = .pointer (some ⟨g4, 0, none⟩) ∧ s6 = .pointer (some ⟨g5, 0, none⟩) ∧ g4 ≠ g5 ∧ wq.heap.size ≤ g4 ∧ wq.heap.size ≤ g5 ∧ Blk wx g4 25 (ivs D) ∧ Blk wx g5 25 (ivs E) ∧ Below wq.heap.size wq wx)
  case first =>
    refine wp_region_noPanic ?_
    refine wp_region_held_drew (S := Ch nob wq) (by kernel_rfl) ((Ch.refl _ _).drew) (fun hHeld => ?_)
    refine wpAnyH_take (i := 0) (oi := ⟨some 14, .load 23 (.tmp 2), _, _, _, none⟩) (v := _) rfl (by kernel_rfl) (by kernel_rfl) (by kernel_rfl) (fun _ _ _ h => h) (yieldsIf_load_mid (by rfl) 23 (.tmp 2) (by rfl) _ (0) (by rfl) _ _ (fun _ hs => HA.out _ hs) und25 rfl (by rw [len_bvs, Ha.out]; exact size25)) (by assumption) ?_
    try simp only [Act.put, List.setIfInBounds_toArray, List.set_cons_zero, List.set_cons_succ]
    refine wpAnyH_take (i := 2) (oi := ⟨some 16, .load 23 (.tmp 3), _, _, _, none⟩) (v := _) rfl (by kernel_rfl) (by kernel_rfl) (by kernel_rfl) (fun _ _ _ h => h) (yieldsIf_load_mid (by rfl) 23 (.tmp 3) (by rfl) _ (0) (by rfl) _ _ (fun _ hs => HB.out _ hs) und25 rfl (by rw [len_bvs, Hb.out]; exact size25)) (by assumption) ?_
    try simp only [Act.put, List.setIfInBounds_toArray, List.set_cons_zero, List.set_cons_succ]
    refine wpAnyH_ready (rs := [1, 4, 5]) (by kernel_rfl) (by simp) ?_
    refine AllReadyH.cons (o := ⟨some 15, _, _, _, _, none⟩) rfl (fun K hK => ?_) ?_
    · go_simp
      refine (digits_any a _ Ha.out).mono ?_
      rintro e' w1 ⟨rfl, hB1⟩
      rw [← HD.out]
      refine hK.out _ _ (hHeld.belowG hB1) (fun hHeld => ?_)
      clear hK K
      try simp only [Act.put, List.setIfInBounds_toArray, List.set_cons_zero, List.set_cons_succ]
      refine wpAnyH_ready (rs := [3, 4, 5]) (by kernel_rfl) (by simp) ?_
      refine AllReadyH.cons (o := ⟨some 17, _, _, _, _, none⟩) rfl (fun K hK => ?_) ?_
      · go_simp
        refine (digits_any b _ Hb.out).mono ?_
        rintro e' w3 ⟨rfl, hB3⟩
        rw [← HE.out]
        refine hK.out _ _ (hHeld.belowG hB3) (fun hHeld => ?_)
        clear hK K
        try simp only [Act.put, List.setIfInBounds_toArray, List.set_cons_zero, List.set_cons_succ]
        refine wpAnyH_ready (rs := [4, 5]) (by kernel_rfl) (by simp) ?_
        refine AllReadyH.cons (o := ⟨some 5, .alloc _, _, _, _, none⟩) rfl (fun K hK => ?_) ?_
        · refine step_new 25 (by rfl) (by rfl) zero38 ?_
          intro g4 w4 hg4 hgl4 hz4 hB4
          have hg4 : wq.heap.size ≤ g4 := Nat.le_trans hHeld.size hg4
          refine hK.out _ _ (hHeld.belowG hB4) (fun hHeld => ?_)
          clear hK K
          try simp only [Act.put, List.setIfInBounds_toArray, List.set_cons_zero, List.set_cons_succ]
          refine wpAnyH_ready (rs := [5]) (by kernel_rfl) (by simp) ?_
          refine AllReadyH.cons (o := ⟨some 6, .alloc _, _, _, _, none⟩) rfl (fun K hK => ?_) AllReadyH.nil
          have hz4l := hz4.lt
          refine step_new 25 (by rfl) (by rfl) zero38 ?_
          intro g5 w5 hg5 hgl5 hz5 hB5
          have hz4 := hz4.below hB5
          have hne : g4 ≠ g5 := fun e => by omega
          have hg5 : wq.heap.size ≤ g5 := Nat.le_trans hHeld.size hg5
          refine hK.out _ _ (hHeld.belowG hB5) (fun hHeld => ?_)
          clear hK K
          try simp only [Act.put, List.setIfInBounds_toArray, List.set_cons_zero, List.set_cons_succ]
          refine wpAnyH_ready (rs := [6]) (by kernel_rfl) (by simp) ?_
          refine AllReadyH.cons (o := ⟨none, .store _ (.tmp 5) (.tmp 15), _, _, _, none⟩) rfl (fun K hK => ?_) AllReadyH.nil
          refine step_st 25 (.tmp 5) (.tmp 15) (by rfl) (by rfl) (by rfl) (f := 0) (by rfl) (l := ivs D) (by rfl) hz4 (by simp [zsi, len_ivs, HDl.out]) (by rw [len_ivs, HDl.out]; exact size38) (oneCell_ivs _) ?_
          intro w6 hy4 hG6
          rw [set38 _ HDl.out] at hy4
          have hz5 := hz5.keep (hG6.block _ hz5.lt (by intro e; injection e with e; exact hne e.symm))
          refine hK.out _ _ (hHeld.grow hG6 (fun k hk => .inr (by injection hk with hk; omega))) (fun hHeld => ?_)
          clear hK K
          try simp only [Act.put, List.setIfInBounds_toArray, List.set_cons_zero, List.set_cons_succ]
          refine wpAnyH_ready (rs := [7]) (by kernel_rfl) (by simp) ?_
          refine AllReadyH.cons (o := ⟨none, .store _ (.tmp 6) (.tmp 17), _, _, _, none⟩) rfl (fun K hK => ?_) AllReadyH.nil
          refine step_st 25 (.tmp 6) (.tmp 17) (by rfl) (by rfl) (by rfl) (f := 0) (by rfl) (l := ivs E) (by rfl) hz5 (by simp [zsi, len_ivs, HEl.out]) (by rw [len_ivs, HEl.out]; exact size38) (oneCell_ivs _) ?_
          intro w7 hy5 hG7
          rw [set38 _ HEl.out] at hy5
          have hy4 := hy4.keep (hG7.block _ hy4.lt (by intro e; injection e with e; exact hne e))
          refine hK.out _ _ (hHeld.grow hG7 (fun k hk => .inr (by injection hk with hk; omega))) (fun hHeld => ?_)
          clear hK K
          try simp only [Act.put, List.setIfInBounds_toArray, List.set_cons_zero, List.set_cons_succ]
          refine wpAnyH_done (by kernel_rfl) ?_ _
          refine NoPanic.normal ?_
          go_wp2
          go_meet
          exact ⟨g4, g5, rfl, rfl, hne, hg4, hg5, hy4, hy5, hHeld.below⟩
        refine AllReadyH.cons (o := ⟨some 6, .alloc _, _, _, _, none⟩) rfl (fun K hK => ?_) AllReadyH.nil
        refine step_new 25 (by rfl) (by rfl) zero38 ?_
        intro g5 w5 hg5 hgl5 hz5 hB5
        have hg5 : wq.heap.size ≤ g5 := Nat.le_trans hHeld.size hg5
        refine hK.out _ _ (hHeld.belowG hB5) (fun hHeld => ?_)
        clear hK K
        try simp only [Act.put, List.setIfInBounds_toArray, List.set_cons_zero, List.set_cons_succ]
        refine wpAnyH_ready (rs := [4]) (by kernel_rfl) (by simp) ?_
        refine AllReadyH.cons (o := ⟨some 5, .alloc _, _, _, _, none⟩) rfl (fun K hK => ?_) AllReadyH.nil
        have hz5l := hz5.lt
        refine step_new 25 (by rfl) (by rfl) zero38 ?_
        intro g4 w4 hg4 hgl4 hz4 hB4
        have hz5 := hz5.below hB4
        have hne : g4 ≠ g5 := fun e => by omega
        have hg4 : wq.heap.size ≤ g4 := Nat.le_trans hHeld.size hg4
        refine hK.out _ _ (hHeld.belowG hB4) (fun hHeld => ?_)
        clear hK K
        try simp only [Act.put, List.setIfInBounds_toArray, List.set_cons_zero, List.set_cons_succ]
        refine wpAnyH_ready (rs := [6]) (by kernel_rfl) (by simp) ?_
        refine AllReadyH.cons (o := ⟨none, .store _ (.tmp 5) (.tmp 15), _, _, _, none⟩) rfl (fun K hK => ?_) AllReadyH.nil
        refine step_st 25 (.tmp 5) (.tmp 15) (by rfl) (by rfl) (by rfl) (f := 0) (by rfl) (l := ivs D) (by rfl) hz4 (by simp [zsi, len_ivs, HDl.out]) (by rw [len_ivs, HDl.out]; exact size38) (oneCell_ivs _) ?_
        intro w6 hy4 hG6
        rw [set38 _ HDl.out] at hy4
        have hz5 := hz5.keep (hG6.block _ hz5.lt (by intro e; injection e with e; exact hne e.symm))
        refine hK.out _ _ (hHeld.grow hG6 (fun k hk => .inr (by injection hk with hk; omega))) (fun hHeld => ?_)
        clear hK K
        try simp only [Act.put, List.setIfInBounds_toArray, List.set_cons_zero, List.set_cons_succ]
        refine wpAnyH_ready (rs := [7]) (by kernel_rfl) (by simp) ?_
        refine AllReadyH.cons (o := ⟨none, .store _ (.tmp 6) (.tmp 17), _, _, _, none⟩) rfl (fun K hK => ?_) AllReadyH.nil
        refine step_st 25 (.tmp 6) (.tmp 17) (by rfl) (by rfl) (by rfl) (f := 0) (by rfl) (l := ivs E) (by rfl) hz5 (by simp [zsi, len_ivs, HEl.out]) (by rw [len_ivs, HEl.out]; exact size38) (oneCell_ivs _) ?_
        intro w7 hy5 hG7
        rw [set38 _ HEl.out] at hy5
        have hy4 := hy4.keep (hG7.block _ hy4.lt (by intro e; injection e with e; exact hne e))
        refine hK.out _ _ (hHeld.grow hG7 (fun k hk => .inr (by injection hk with hk; omega))) (fun hHeld => ?_)
        clear hK K
        try simp only [Act.put, List.setIfInBounds_toArray, List.set_cons_zero, List.set_cons_succ]
        refine wpAnyH_done (by kernel_rfl) ?_ _
        refine NoPanic.normal ?_
        go_wp2
        go_meet
        exact ⟨g4, g5, rfl, rfl, hne, hg4, hg5, hy4, hy5, hHeld.below⟩
      refine AllReadyH.cons (o := ⟨some 5, .alloc _, _, _, _, none⟩) rfl (fun K hK => ?_) ?_
      · refine step_new 25 (by rfl) (by rfl) zero38 ?_
        intro g4 w4 hg4 hgl4 hz4 hB4
        have hg4 : wq.heap.size ≤ g4 := Nat.le_trans hHeld.size hg4
        refine hK.out _ _ (hHeld.belowG hB4) (fun hHeld => ?_)
        clear hK K
        try simp only [Act.put, List.setIfInBounds_toArray, List.set_cons_zero, List.set_cons_succ]
        refine wpAnyH_ready (rs := [3, 5]) (by kernel_rfl) (by simp) ?_
        refine AllReadyH.cons (o := ⟨some 17, _, _, _, _, none⟩) rfl (fun K hK => ?_) ?_
        · go_simp
          refine (digits_any b _ Hb.out).mono ?_
          rintro e' w3 ⟨rfl, hB3⟩
          rw [← HE.out]
          have hz4 := hz4.below hB3
          refine hK.out _ _ (hHeld.belowG hB3) (fun hHeld => ?_)
          clear hK K
          try simp only [Act.put, List.setIfInBounds_toArray, List.set_cons_zero, List.set_cons_succ]
          refine wpAnyH_ready (rs := [5]) (by kernel_rfl) (by simp) ?_
          refine AllReadyH.cons (o := ⟨some 6, .alloc _, _, _, _, none⟩) rfl (fun K hK => ?_) AllReadyH.nil
          have hz4l := hz4.lt
          refine step_new 25 (by rfl) (by rfl) zero38 ?_
          intro g5 w5 hg5 hgl5 hz5 hB5
          have hz4 := hz4.below hB5
          have hne : g4 ≠ g5 := fun e => by omega
          have hg5 : wq.heap.size ≤ g5 := Nat.le_trans hHeld.size hg5
          refine hK.out _ _ (hHeld.belowG hB5) (fun hHeld => ?_)
          clear hK K
          try simp only [Act.put, List.setIfInBounds_toArray, List.set_cons_zero, List.set_cons_succ]
          refine wpAnyH_ready (rs := [6]) (by kernel_rfl) (by simp) ?_
          refine AllReadyH.cons (o := ⟨none, .store _ (.tmp 5) (.tmp 15), _, _, _, none⟩) rfl (fun K hK => ?_) AllReadyH.nil
          refine step_st 25 (.tmp 5) (.tmp 15) (by rfl) (by rfl) (by rfl) (f := 0) (by rfl) (l := ivs D) (by rfl) hz4 (by simp [zsi, len_ivs, HDl.out]) (by rw [len_ivs, HDl.out]; exact size38) (oneCell_ivs _) ?_
          intro w6 hy4 hG6
          rw [set38 _ HDl.out] at hy4
          have hz5 := hz5.keep (hG6.block _ hz5.lt (by intro e; injection e with e; exact hne e.symm))
          refine hK.out _ _ (hHeld.grow hG6 (fun k hk => .inr (by injection hk with hk; omega))) (fun hHeld => ?_)
          clear hK K
          try simp only [Act.put, List.setIfInBounds_toArray, List.set_cons_zero, List.set_cons_succ]
          refine wpAnyH_ready (rs := [7]) (by kernel_rfl) (by simp) ?_
          refine AllReadyH.cons (o := ⟨none, .store _ (.tmp 6) (.tmp 17), _, _, _, none⟩) rfl (fun K hK => ?_) AllReadyH.nil
          refine step_st 25 (.tmp 6) (.tmp 17) (by rfl) (by rfl) (by rfl) (f := 0) (by rfl) (l := ivs E) (by rfl) hz5 (by simp [zsi, len_ivs, HEl.out]) (by rw [len_ivs, HEl.out]; exact size38) (oneCell_ivs _) ?_
          intro w7 hy5 hG7
          rw [set38 _ HEl.out] at hy5
          have hy4 := hy4.keep (hG7.block _ hy4.lt (by intro e; injection e with e; exact hne e))
          refine hK.out _ _ (hHeld.grow hG7 (fun k hk => .inr (by injection hk with hk; omega))) (fun hHeld => ?_)
          clear hK K
          try simp only [Act.put, List.setIfInBounds_toArray, List.set_cons_zero, List.set_cons_succ]
          refine wpAnyH_done (by kernel_rfl) ?_ _
          refine NoPanic.normal ?_
          go_wp2
          go_meet
          exact ⟨g4, g5, rfl, rfl, hne, hg4, hg5, hy4, hy5, hHeld.below⟩
        refine AllReadyH.cons (o := ⟨some 6, .alloc _, _, _, _, none⟩) rfl (fun K hK => ?_) AllReadyH.nil
        have hz4l := hz4.lt
        refine step_new 25 (by rfl) (by rfl) zero38 ?_
        intro g5 w5 hg5 hgl5 hz5 hB5
        have hz4 := hz4.below hB5
        have hne : g4 ≠ g5 := fun e => by omega
        have hg5 : wq.heap.size ≤ g5 := Nat.le_trans hHeld.size hg5
        refine hK.out _ _ (hHeld.belowG hB5) (fun hHeld => ?_)
        clear hK K
        try simp only [Act.put, List.setIfInBounds_toArray, List.set_cons_zero, List.set_cons_succ]
        refine wpAnyH_ready (rs := [3]) (by kernel_rfl) (by simp) ?_
        refine AllReadyH.cons (o := ⟨some 17, _, _, _, _, none⟩) rfl (fun K hK => ?_) AllReadyH.nil
        go_simp
        refine (digits_any b _ Hb.out).mono ?_
        rintro e' w3 ⟨rfl, hB3⟩
        rw [← HE.out]
        have hz4 := hz4.below hB3
        have hz5 := hz5.below hB3
        refine hK.out _ _ (hHeld.belowG hB3) (fun hHeld => ?_)
        clear hK K
        try simp only [Act.put, List.setIfInBounds_toArray, List.set_cons_zero, List.set_cons_succ]
        refine wpAnyH_ready (rs := [6]) (by kernel_rfl) (by simp) ?_
        refine AllReadyH.cons (o := ⟨none, .store _ (.tmp 5) (.tmp 15), _, _, _, none⟩) rfl (fun K hK => ?_) AllReadyH.nil
        refine step_st 25 (.tmp 5) (.tmp 15) (by rfl) (by rfl) (by rfl) (f := 0) (by rfl) (l := ivs D) (by rfl) hz4 (by simp [zsi, len_ivs, HDl.out]) (by rw [len_ivs, HDl.out]; exact size38) (oneCell_ivs _) ?_
        intro w6 hy4 hG6
        rw [set38 _ HDl.out] at hy4
        have hz5 := hz5.keep (hG6.block _ hz5.lt (by intro e; injection e with e; exact hne e.symm))
        refine hK.out _ _ (hHeld.grow hG6 (fun k hk => .inr (by injection hk with hk; omega))) (fun hHeld => ?_)
        clear hK K
        try simp only [Act.put, List.setIfInBounds_toArray, List.set_cons_zero, List.set_cons_succ]
        refine wpAnyH_ready (rs := [7]) (by kernel_rfl) (by simp) ?_
        refine AllReadyH.cons (o := ⟨none, .store _ (.tmp 6) (.tmp 17), _, _, _, none⟩) rfl (fun K hK => ?_) AllReadyH.nil
        refine step_st 25 (.tmp 6) (.tmp 17) (by rfl) (by rfl) (by rfl) (f := 0) (by rfl) (l := ivs E) (by rfl) hz5 (by simp [zsi, len_ivs, HEl.out]) (by rw [len_ivs, HEl.out]; exact size38) (oneCell_ivs _) ?_
        intro w7 hy5 hG7
        rw [set38 _ HEl.out] at hy5
        have hy4 := hy4.keep (hG7.block _ hy4.lt (by intro e; injection e with e; exact hne e))
        refine hK.out _ _ (hHeld.grow hG7 (fun k hk => .inr (by injection hk with hk; omega))) (fun hHeld => ?_)
        clear hK K
        try simp only [Act.put, List.setIfInBounds_toArray, List.set_cons_zero, List.set_cons_succ]
        refine wpAnyH_done (by kernel_rfl) ?_ _
        refine NoPanic.normal ?_
        go_wp2
        go_meet
        exact ⟨g4, g5, rfl, rfl, hne, hg4, hg5, hy4, hy5, hHeld.below⟩
      refine AllReadyH.cons (o := ⟨some 6, .alloc _, _, _, _, none⟩) rfl (fun K hK => ?_) AllReadyH.nil
      refine step_new 25 (by rfl) (by rfl) zero38 ?_
      intro g5 w5 hg5 hgl5 hz5 hB5
      have hg5 : wq.heap.size ≤ g5 := Nat.le_trans hHeld.size hg5
      refine hK.out _ _ (hHeld.belowG hB5) (fun hHeld => ?_)
      clear hK K
      try simp only [Act.put, List.setIfInBounds_toArray, List.set_cons_zero, List.set_cons_succ]
      refine wpAnyH_ready (rs := [3, 4]) (by kernel_rfl) (by simp) ?_
      refine AllReadyH.cons (o := ⟨some 17, _, _, _, _, none⟩) rfl (fun K hK => ?_) ?_
      · go_simp
        refine (digits_any b _ Hb.out).mono ?_
        rintro e' w3 ⟨rfl, hB3⟩
        rw [← HE.out]
        have hz5 := hz5.below hB3
        refine hK.out _ _ (hHeld.belowG hB3) (fun hHeld => ?_)
        clear hK K
        try simp only [Act.put, List.setIfInBounds_toArray, List.set_cons_zero, List.set_cons_succ]
        refine wpAnyH_ready (rs := [4]) (by kernel_rfl) (by simp) ?_
        refine AllReadyH.cons (o := ⟨some 5, .alloc _, _, _, _, none⟩) rfl (fun K hK => ?_) AllReadyH.nil
        have hz5l := hz5.lt
        refine step_new 25 (by rfl) (by rfl) zero38 ?_
        intro g4 w4 hg4 hgl4 hz4 hB4
        have hz5 := hz5.below hB4
        have hne : g4 ≠ g5 := fun e => by omega
        have hg4 : wq.heap.size ≤ g4 := Nat.le_trans hHeld.size hg4
        refine hK.out _ _ (hHeld.belowG hB4) (fun hHeld => ?_)
        clear hK K
        try simp only [Act.put, List.setIfInBounds_toArray, List.set_cons_zero, List.set_cons_succ]
        refine wpAnyH_ready (rs := [6]) (by kernel_rfl) (by simp) ?_
        refine AllReadyH.cons (o := ⟨none, .store _ (.tmp 5) (.tmp 15), _, _, _, none⟩) rfl (fun K hK => ?_) AllReadyH.nil
        refine step_st 25 (.tmp 5) (.tmp 15) (by rfl) (by rfl) (by rfl) (f := 0) (by rfl) (l := ivs D) (by rfl) hz4 (by simp [zsi, len_ivs, HDl.out]) (by rw [len_ivs, HDl.out]; exact size38) (oneCell_ivs _) ?_
        intro w6 hy4 hG6
        rw [set38 _ HDl.out] at hy4
        have hz5 := hz5.keep (hG6.block _ hz5.lt (by intro e; injection e with e; exact hne e.symm))
        refine hK.out _ _ (hHeld.grow hG6 (fun k hk => .inr (by injection hk with hk; omega))) (fun hHeld => ?_)
        clear hK K
        try simp only [Act.put, List.setIfInBounds_toArray, List.set_cons_zero, List.set_cons_succ]
        refine wpAnyH_ready (rs := [7]) (by kernel_rfl) (by simp) ?_
        refine AllReadyH.cons (o := ⟨none, .store _ (.tmp 6) (.tmp 17), _, _, _, none⟩) rfl (fun K hK => ?_) AllReadyH.nil
        refine step_st 25 (.tmp 6) (.tmp 17) (by rfl) (by rfl) (by rfl) (f := 0) (by rfl) (l := ivs E) (by rfl) hz5 (by simp [zsi, len_ivs, HEl.out]) (by rw [len_ivs, HEl.out]; exact size38) (oneCell_ivs _) ?_
        intro w7 hy5 hG7
        rw [set38 _ HEl.out] at hy5
        have hy4 := hy4.keep (hG7.block _ hy4.lt (by intro e; injection e with e; exact hne e))
        refine hK.out _ _ (hHeld.grow hG7 (fun k hk => .inr (by injection hk with hk; omega))) (fun hHeld => ?_)
        clear hK K
        try simp only [Act.put, List.setIfInBounds_toArray, List.set_cons_zero, List.set_cons_succ]
        refine wpAnyH_done (by kernel_rfl) ?_ _
        refine NoPanic.normal ?_
        go_wp2
        go_meet
        exact ⟨g4, g5, rfl, rfl, hne, hg4, hg5, hy4, hy5, hHeld.below⟩
      refine AllReadyH.cons (o := ⟨some 5, .alloc _, _, _, _, none⟩) rfl (fun K hK => ?_) AllReadyH.nil
      have hz5l := hz5.lt
      refine step_new 25 (by rfl) (by rfl) zero38 ?_
      intro g4 w4 hg4 hgl4 hz4 hB4
      have hz5 := hz5.below hB4
      have hne : g4 ≠ g5 := fun e => by omega
      have hg4 : wq.heap.size ≤ g4 := Nat.le_trans hHeld.size hg4
      refine hK.out _ _ (hHeld.belowG hB4) (fun hHeld => ?_)
      clear hK K
      try simp only [Act.put, List.setIfInBounds_toArray, List.set_cons_zero, List.set_cons_succ]
      refine wpAnyH_ready (rs := [3]) (by kernel_rfl) (by simp) ?_
      refine AllReadyH.cons (o := ⟨some 17, _, _, _, _, none⟩) rfl (fun K hK => ?_) AllReadyH.nil
      go_simp
      refine (digits_any b _ Hb.out).mono ?_
      rintro e' w3 ⟨rfl, hB3⟩
      rw [← HE.out]
      have hz4 := hz4.below hB3
      have hz5 := hz5.below hB3
      refine hK.out _ _ (hHeld.belowG hB3) (fun hHeld => ?_)
      clear hK K
      try simp only [Act.put, List.setIfInBounds_toArray, List.set_cons_zero, List.set_cons_succ]
      refine wpAnyH_ready (rs := [6]) (by kernel_rfl) (by simp) ?_
      refine AllReadyH.cons (o := ⟨none, .store _ (.tmp 5) (.tmp 15), _, _, _, none⟩) rfl (fun K hK => ?_) AllReadyH.nil
      refine step_st 25 (.tmp 5) (.tmp 15) (by rfl) (by rfl) (by rfl) (f := 0) (by rfl) (l := ivs D) (by rfl) hz4 (by simp [zsi, len_ivs, HDl.out]) (by rw [len_ivs, HDl.out]; exact size38) (oneCell_ivs _) ?_
      intro w6 hy4 hG6
      rw [set38 _ HDl.out] at hy4
      have hz5 := hz5.keep (hG6.block _ hz5.lt (by intro e; injection e with e; exact hne e.symm))
      refine hK.out _ _ (hHeld.grow hG6 (fun k hk => .inr (by injection hk with hk; omega))) (fun hHeld => ?_)
      clear hK K
      try simp only [Act.put, List.setIfInBounds_toArray, List.set_cons_zero, List.set_cons_succ]
      refine wpAnyH_ready (rs := [7]) (by kernel_rfl) (by simp) ?_
      refine AllReadyH.cons (o := ⟨none, .store _ (.tmp 6) (.tmp 17), _, _, _, none⟩) rfl (fun K hK => ?_) AllReadyH.nil
      refine step_st 25 (.tmp 6) (.tmp 17) (by rfl) (by rfl) (by rfl) (f := 0) (by rfl) (l := ivs E) (by rfl) hz5 (by simp [zsi, len_ivs, HEl.out]) (by rw [len_ivs, HEl.out]; exact size38) (oneCell_ivs _) ?_
      intro w7 hy5 hG7
      rw [set38 _ HEl.out] at hy5
      have hy4 := hy4.keep (hG7.block _ hy4.lt (by intro e; injection e with e; exact hne e))
      refine hK.out _ _ (hHeld.grow hG7 (fun k hk => .inr (by injection hk with hk; omega))) (fun hHeld => ?_)
      clear hK K
      try simp only [Act.put, List.setIfInBounds_toArray, List.set_cons_zero, List.set_cons_succ]
      refine wpAnyH_done (by kernel_rfl) ?_ _
      refine NoPanic.normal ?_
      go_wp2
      go_meet
      exact ⟨g4, g5, rfl, rfl, hne, hg4, hg5, hy4, hy5, hHeld.below⟩
    refine AllReadyH.cons (o := ⟨some 5, .alloc _, _, _, _, none⟩) rfl (fun K hK => ?_) ?_
    · refine step_new 25 (by rfl) (by rfl) zero38 ?_
      intro g4 w4 hg4 hgl4 hz4 hB4
      have hg4 : wq.heap.size ≤ g4 := Nat.le_trans hHeld.size hg4
      refine hK.out _ _ (hHeld.belowG hB4) (fun hHeld => ?_)
      clear hK K
      try simp only [Act.put, List.setIfInBounds_toArray, List.set_cons_zero, List.set_cons_succ]
      refine wpAnyH_ready (rs := [1, 5]) (by kernel_rfl) (by simp) ?_
      refine AllReadyH.cons (o := ⟨some 15, _, _, _, _, none⟩) rfl (fun K hK => ?_) ?_
      · go_simp
        refine (digits_any a _ Ha.out).mono ?_
        rintro e' w1 ⟨rfl, hB1⟩
        rw [← HD.out]
        have hz4 := hz4.below hB1
        refine hK.out _ _ (hHeld.belowG hB1) (fun hHeld => ?_)
        clear hK K
        try simp only [Act.put, List.setIfInBounds_toArray, List.set_cons_zero, List.set_cons_succ]
        refine wpAnyH_ready (rs := [3, 5]) (by kernel_rfl) (by simp) ?_
        refine AllReadyH.cons (o := ⟨some 17, _, _, _, _, none⟩) rfl (fun K hK => ?_) ?_
        · go_simp
          refine (digits_any b _ Hb.out).mono ?_
          rintro e' w3 ⟨rfl, hB3⟩
          rw [← HE.out]
          have hz4 := hz4.below hB3
          refine hK.out _ _ (hHeld.belowG hB3) (fun hHeld => ?_)
          clear hK K
          try simp only [Act.put, List.setIfInBounds_toArray, List.set_cons_zero, List.set_cons_succ]
          refine wpAnyH_ready (rs := [5]) (by kernel_rfl) (by simp) ?_
          refine AllReadyH.cons (o := ⟨some 6, .alloc _, _, _, _, none⟩) rfl (fun K hK => ?_) AllReadyH.nil
          have hz4l := hz4.lt
          refine step_new 25 (by rfl) (by rfl) zero38 ?_
          intro g5 w5 hg5 hgl5 hz5 hB5
          have hz4 := hz4.below hB5
          have hne : g4 ≠ g5 := fun e => by omega
          have hg5 : wq.heap.size ≤ g5 := Nat.le_trans hHeld.size hg5
          refine hK.out _ _ (hHeld.belowG hB5) (fun hHeld => ?_)
          clear hK K
          try simp only [Act.put, List.setIfInBounds_toArray, List.set_cons_zero, List.set_cons_succ]
          refine wpAnyH_ready (rs := [6]) (by kernel_rfl) (by simp) ?_
          refine AllReadyH.cons (o := ⟨none, .store _ (.tmp 5) (.tmp 15), _, _, _, none⟩) rfl (fun K hK => ?_) AllReadyH.nil
          refine step_st 25 (.tmp 5) (.tmp 15) (by rfl) (by rfl) (by rfl) (f := 0) (by rfl) (l := ivs D) (by rfl) hz4 (by simp [zsi, len_ivs, HDl.out]) (by rw [len_ivs, HDl.out]; exact size38) (oneCell_ivs _) ?_
          intro w6 hy4 hG6
          rw [set38 _ HDl.out] at hy4
          have hz5 := hz5.keep (hG6.block _ hz5.lt (by intro e; injection e with e; exact hne e.symm))
          refine hK.out _ _ (hHeld.grow hG6 (fun k hk => .inr (by injection hk with hk; omega))) (fun hHeld => ?_)
          clear hK K
          try simp only [Act.put, List.setIfInBounds_toArray, List.set_cons_zero, List.set_cons_succ]
          refine wpAnyH_ready (rs := [7]) (by kernel_rfl) (by simp) ?_
          refine AllReadyH.cons (o := ⟨none, .store _ (.tmp 6) (.tmp 17), _, _, _, none⟩) rfl (fun K hK => ?_) AllReadyH.nil
          refine step_st 25 (.tmp 6) (.tmp 17) (by rfl) (by rfl) (by rfl) (f := 0) (by rfl) (l := ivs E) (by rfl) hz5 (by simp [zsi, len_ivs, HEl.out]) (by rw [len_ivs, HEl.out]; exact size38) (oneCell_ivs _) ?_
          intro w7 hy5 hG7
          rw [set38 _ HEl.out] at hy5
          have hy4 := hy4.keep (hG7.block _ hy4.lt (by intro e; injection e with e; exact hne e))
          refine hK.out _ _ (hHeld.grow hG7 (fun k hk => .inr (by injection hk with hk; omega))) (fun hHeld => ?_)
          clear hK K
          try simp only [Act.put, List.setIfInBounds_toArray, List.set_cons_zero, List.set_cons_succ]
          refine wpAnyH_done (by kernel_rfl) ?_ _
          refine NoPanic.normal ?_
          go_wp2
          go_meet
          exact ⟨g4, g5, rfl, rfl, hne, hg4, hg5, hy4, hy5, hHeld.below⟩
        refine AllReadyH.cons (o := ⟨some 6, .alloc _, _, _, _, none⟩) rfl (fun K hK => ?_) AllReadyH.nil
        have hz4l := hz4.lt
        refine step_new 25 (by rfl) (by rfl) zero38 ?_
        intro g5 w5 hg5 hgl5 hz5 hB5
        have hz4 := hz4.below hB5
        have hne : g4 ≠ g5 := fun e => by omega
        have hg5 : wq.heap.size ≤ g5 := Nat.le_trans hHeld.size hg5
        refine hK.out _ _ (hHeld.belowG hB5) (fun hHeld => ?_)
        clear hK K
        try simp only [Act.put, List.setIfInBounds_toArray, List.set_cons_zero, List.set_cons_succ]
        refine wpAnyH_ready (rs := [3]) (by kernel_rfl) (by simp) ?_
        refine AllReadyH.cons (o := ⟨some 17, _, _, _, _, none⟩) rfl (fun K hK => ?_) AllReadyH.nil
        go_simp
        refine (digits_any b _ Hb.out).mono ?_
        rintro e' w3 ⟨rfl, hB3⟩
        rw [← HE.out]
        have hz4 := hz4.below hB3
        have hz5 := hz5.below hB3
        refine hK.out _ _ (hHeld.belowG hB3) (fun hHeld => ?_)
        clear hK K
        try simp only [Act.put, List.setIfInBounds_toArray, List.set_cons_zero, List.set_cons_succ]
        refine wpAnyH_ready (rs := [6]) (by kernel_rfl) (by simp) ?_
        refine AllReadyH.cons (o := ⟨none, .store _ (.tmp 5) (.tmp 15), _, _, _, none⟩) rfl (fun K hK => ?_) AllReadyH.nil
        refine step_st 25 (.tmp 5) (.tmp 15) (by rfl) (by rfl) (by rfl) (f := 0) (by rfl) (l := ivs D) (by rfl) hz4 (by simp [zsi, len_ivs, HDl.out]) (by rw [len_ivs, HDl.out]; exact size38) (oneCell_ivs _) ?_
        intro w6 hy4 hG6
        rw [set38 _ HDl.out] at hy4
        have hz5 := hz5.keep (hG6.block _ hz5.lt (by intro e; injection e with e; exact hne e.symm))
        refine hK.out _ _ (hHeld.grow hG6 (fun k hk => .inr (by injection hk with hk; omega))) (fun hHeld => ?_)
        clear hK K
        try simp only [Act.put, List.setIfInBounds_toArray, List.set_cons_zero, List.set_cons_succ]
        refine wpAnyH_ready (rs := [7]) (by kernel_rfl) (by simp) ?_
        refine AllReadyH.cons (o := ⟨none, .store _ (.tmp 6) (.tmp 17), _, _, _, none⟩) rfl (fun K hK => ?_) AllReadyH.nil
        refine step_st 25 (.tmp 6) (.tmp 17) (by rfl) (by rfl) (by rfl) (f := 0) (by rfl) (l := ivs E) (by rfl) hz5 (by simp [zsi, len_ivs, HEl.out]) (by rw [len_ivs, HEl.out]; exact size38) (oneCell_ivs _) ?_
        intro w7 hy5 hG7
        rw [set38 _ HEl.out] at hy5
        have hy4 := hy4.keep (hG7.block _ hy4.lt (by intro e; injection e with e; exact hne e))
        refine hK.out _ _ (hHeld.grow hG7 (fun k hk => .inr (by injection hk with hk; omega))) (fun hHeld => ?_)
        clear hK K
        try simp only [Act.put, List.setIfInBounds_toArray, List.set_cons_zero, List.set_cons_succ]
        refine wpAnyH_done (by kernel_rfl) ?_ _
        refine NoPanic.normal ?_
        go_wp2
        go_meet
        exact ⟨g4, g5, rfl, rfl, hne, hg4, hg5, hy4, hy5, hHeld.below⟩
      refine AllReadyH.cons (o := ⟨some 6, .alloc _, _, _, _, none⟩) rfl (fun K hK => ?_) AllReadyH.nil
      have hz4l := hz4.lt
      refine step_new 25 (by rfl) (by rfl) zero38 ?_
      intro g5 w5 hg5 hgl5 hz5 hB5
      have hz4 := hz4.below hB5
      have hne : g4 ≠ g5 := fun e => by omega
      have hg5 : wq.heap.size ≤ g5 := Nat.le_trans hHeld.size hg5
      refine hK.out _ _ (hHeld.belowG hB5) (fun hHeld => ?_)
      clear hK K
      try simp only [Act.put, List.setIfInBounds_toArray, List.set_cons_zero, List.set_cons_succ]
      refine wpAnyH_ready (rs := [1]) (by kernel_rfl) (by simp) ?_
      refine AllReadyH.cons (o := ⟨some 15, _, _, _, _, none⟩) rfl (fun K hK => ?_) AllReadyH.nil
      go_simp
      refine (digits_any a _ Ha.out).mono ?_
      rintro e' w1 ⟨rfl, hB1⟩
      rw [← HD.out]
      have hz4 := hz4.below hB1
      have hz5 := hz5.below hB1
      refine hK.out _ _ (hHeld.belowG hB1) (fun hHeld => ?_)
      clear hK K
      try simp only [Act.put, List.setIfInBounds_toArray, List.set_cons_zero, List.set_cons_succ]
      refine wpAnyH_ready (rs := [3]) (by kernel_rfl) (by simp) ?_
      refine AllReadyH.cons (o := ⟨some 17, _, _, _, _, none⟩) rfl (fun K hK => ?_) AllReadyH.nil
      go_simp
      refine (digits_any b _ Hb.out).mono ?_
      rintro e' w3 ⟨rfl, hB3⟩
      rw [← HE.out]
      have hz4 := hz4.below hB3
      have hz5 := hz5.below hB3
      refine hK.out _ _ (hHeld.belowG hB3) (fun hHeld => ?_)
      clear hK K
      try simp only [Act.put, List.setIfInBounds_toArray, List.set_cons_zero, List.set_cons_succ]
      refine wpAnyH_ready (rs := [6]) (by kernel_rfl) (by simp) ?_
      refine AllReadyH.cons (o := ⟨none, .store _ (.tmp 5) (.tmp 15), _, _, _, none⟩) rfl (fun K hK => ?_) AllReadyH.nil
      refine step_st 25 (.tmp 5) (.tmp 15) (by rfl) (by rfl) (by rfl) (f := 0) (by rfl) (l := ivs D) (by rfl) hz4 (by simp [zsi, len_ivs, HDl.out]) (by rw [len_ivs, HDl.out]; exact size38) (oneCell_ivs _) ?_
      intro w6 hy4 hG6
      rw [set38 _ HDl.out] at hy4
      have hz5 := hz5.keep (hG6.block _ hz5.lt (by intro e; injection e with e; exact hne e.symm))
      refine hK.out _ _ (hHeld.grow hG6 (fun k hk => .inr (by injection hk with hk; omega))) (fun hHeld => ?_)
      clear hK K
      try simp only [Act.put, List.setIfInBounds_toArray, List.set_cons_zero, List.set_cons_succ]
      refine wpAnyH_ready (rs := [7]) (by kernel_rfl) (by simp) ?_
      refine AllReadyH.cons (o := ⟨none, .store _ (.tmp 6) (.tmp 17), _, _, _, none⟩) rfl (fun K hK => ?_) AllReadyH.nil
      refine step_st 25 (.tmp 6) (.tmp 17) (by rfl) (by rfl) (by rfl) (f := 0) (by rfl) (l := ivs E) (by rfl) hz5 (by simp [zsi, len_ivs, HEl.out]) (by rw [len_ivs, HEl.out]; exact size38) (oneCell_ivs _) ?_
      intro w7 hy5 hG7
      rw [set38 _ HEl.out] at hy5
      have hy4 := hy4.keep (hG7.block _ hy4.lt (by intro e; injection e with e; exact hne e))
      refine hK.out _ _ (hHeld.grow hG7 (fun k hk => .inr (by injection hk with hk; omega))) (fun hHeld => ?_)
      clear hK K
      try simp only [Act.put, List.setIfInBounds_toArray, List.set_cons_zero, List.set_cons_succ]
      refine wpAnyH_done (by kernel_rfl) ?_ _
      refine NoPanic.normal ?_
      go_wp2
      go_meet
      exact ⟨g4, g5, rfl, rfl, hne, hg4, hg5, hy4, hy5, hHeld.below⟩
    refine AllReadyH.cons (o := ⟨some 6, .alloc _, _, _, _, none⟩) rfl (fun K hK => ?_) AllReadyH.nil
    refine step_new 25 (by rfl) (by rfl) zero38 ?_
    intro g5 w5 hg5 hgl5 hz5 hB5
    have hg5 : wq.heap.size ≤ g5 := Nat.le_trans hHeld.size hg5
    refine hK.out _ _ (hHeld.belowG hB5) (fun hHeld => ?_)
    clear hK K
    try simp only [Act.put, List.setIfInBounds_toArray, List.set_cons_zero, List.set_cons_succ]
    refine wpAnyH_ready (rs := [1, 4]) (by kernel_rfl) (by simp) ?_
    refine AllReadyH.cons (o := ⟨some 15, _, _, _, _, none⟩) rfl (fun K hK => ?_) ?_
    · go_simp
      refine (digits_any a _ Ha.out).mono ?_
      rintro e' w1 ⟨rfl, hB1⟩
      rw [← HD.out]
      have hz5 := hz5.below hB1
      refine hK.out _ _ (hHeld.belowG hB1) (fun hHeld => ?_)
      clear hK K
      try simp only [Act.put, List.setIfInBounds_toArray, List.set_cons_zero, List.set_cons_succ]
      refine wpAnyH_ready (rs := [3, 4]) (by kernel_rfl) (by simp) ?_
      refine AllReadyH.cons (o := ⟨some 17, _, _, _, _, none⟩) rfl (fun K hK => ?_) ?_
      · go_simp
        refine (digits_any b _ Hb.out).mono ?_
        rintro e' w3 ⟨rfl, hB3⟩
        rw [← HE.out]
        have hz5 := hz5.below hB3
        refine hK.out _ _ (hHeld.belowG hB3) (fun hHeld => ?_)
        clear hK K
        try simp only [Act.put, List.setIfInBounds_toArray, List.set_cons_zero, List.set_cons_succ]
        refine wpAnyH_ready (rs := [4]) (by kernel_rfl) (by simp) ?_
        refine AllReadyH.cons (o := ⟨some 5, .alloc _, _, _, _, none⟩) rfl (fun K hK => ?_) AllReadyH.nil
        have hz5l := hz5.lt
        refine step_new 25 (by rfl) (by rfl) zero38 ?_
        intro g4 w4 hg4 hgl4 hz4 hB4
        have hz5 := hz5.below hB4
        have hne : g4 ≠ g5 := fun e => by omega
        have hg4 : wq.heap.size ≤ g4 := Nat.le_trans hHeld.size hg4
        refine hK.out _ _ (hHeld.belowG hB4) (fun hHeld => ?_)
        clear hK K
        try simp only [Act.put, List.setIfInBounds_toArray, List.set_cons_zero, List.set_cons_succ]
        refine wpAnyH_ready (rs := [6]) (by kernel_rfl) (by simp) ?_
        refine AllReadyH.cons (o := ⟨none, .store _ (.tmp 5) (.tmp 15), _, _, _, none⟩) rfl (fun K hK => ?_) AllReadyH.nil
        refine step_st 25 (.tmp 5) (.tmp 15) (by rfl) (by rfl) (by rfl) (f := 0) (by rfl) (l := ivs D) (by rfl) hz4 (by simp [zsi, len_ivs, HDl.out]) (by rw [len_ivs, HDl.out]; exact size38) (oneCell_ivs _) ?_
        intro w6 hy4 hG6
        rw [set38 _ HDl.out] at hy4
        have hz5 := hz5.keep (hG6.block _ hz5.lt (by intro e; injection e with e; exact hne e.symm))
        refine hK.out _ _ (hHeld.grow hG6 (fun k hk => .inr (by injection hk with hk; omega))) (fun hHeld => ?_)
        clear hK K
        try simp only [Act.put, List.setIfInBounds_toArray, List.set_cons_zero, List.set_cons_succ]
        refine wpAnyH_ready (rs := [7]) (by kernel_rfl) (by simp) ?_
        refine AllReadyH.cons (o := ⟨none, .store _ (.tmp 6) (.tmp 17), _, _, _, none⟩) rfl (fun K hK => ?_) AllReadyH.nil
        refine step_st 25 (.tmp 6) (.tmp 17) (by rfl) (by rfl) (by rfl) (f := 0) (by rfl) (l := ivs E) (by rfl) hz5 (by simp [zsi, len_ivs, HEl.out]) (by rw [len_ivs, HEl.out]; exact size38) (oneCell_ivs _) ?_
        intro w7 hy5 hG7
        rw [set38 _ HEl.out] at hy5
        have hy4 := hy4.keep (hG7.block _ hy4.lt (by intro e; injection e with e; exact hne e))
        refine hK.out _ _ (hHeld.grow hG7 (fun k hk => .inr (by injection hk with hk; omega))) (fun hHeld => ?_)
        clear hK K
        try simp only [Act.put, List.setIfInBounds_toArray, List.set_cons_zero, List.set_cons_succ]
        refine wpAnyH_done (by kernel_rfl) ?_ _
        refine NoPanic.normal ?_
        go_wp2
        go_meet
        exact ⟨g4, g5, rfl, rfl, hne, hg4, hg5, hy4, hy5, hHeld.below⟩
      refine AllReadyH.cons (o := ⟨some 5, .alloc _, _, _, _, none⟩) rfl (fun K hK => ?_) AllReadyH.nil
      have hz5l := hz5.lt
      refine step_new 25 (by rfl) (by rfl) zero38 ?_
      intro g4 w4 hg4 hgl4 hz4 hB4
      have hz5 := hz5.below hB4
      have hne : g4 ≠ g5 := fun e => by omega
      have hg4 : wq.heap.size ≤ g4 := Nat.le_trans hHeld.size hg4
      refine hK.out _ _ (hHeld.belowG hB4) (fun hHeld => ?_)
      clear hK K
      try simp only [Act.put, List.setIfInBounds_toArray, List.set_cons_zero, List.set_cons_succ]
      refine wpAnyH_ready (rs := [3]) (by kernel_rfl) (by simp) ?_
      refine AllReadyH.cons (o := ⟨some 17, _, _, _, _, none⟩) rfl (fun K hK => ?_) AllReadyH.nil
      go_simp
      refine (digits_any b _ Hb.out).mono ?_
      rintro e' w3 ⟨rfl, hB3⟩
      rw [← HE.out]
      have hz4 := hz4.below hB3
      have hz5 := hz5.below hB3
      refine hK.out _ _ (hHeld.belowG hB3) (fun hHeld => ?_)
      clear hK K
      try simp only [Act.put, List.setIfInBounds_toArray, List.set_cons_zero, List.set_cons_succ]
      refine wpAnyH_ready (rs := [6]) (by kernel_rfl) (by simp) ?_
      refine AllReadyH.cons (o := ⟨none, .store _ (.tmp 5) (.tmp 15), _, _, _, none⟩) rfl (fun K hK => ?_) AllReadyH.nil
      refine step_st 25 (.tmp 5) (.tmp 15) (by rfl) (by rfl) (by rfl) (f := 0) (by rfl) (l := ivs D) (by rfl) hz4 (by simp [zsi, len_ivs, HDl.out]) (by rw [len_ivs, HDl.out]; exact size38) (oneCell_ivs _) ?_
      intro w6 hy4 hG6
      rw [set38 _ HDl.out] at hy4
      have hz5 := hz5.keep (hG6.block _ hz5.lt (by intro e; injection e with e; exact hne e.symm))
      refine hK.out _ _ (hHeld.grow hG6 (fun k hk => .inr (by injection hk with hk; omega))) (fun hHeld => ?_)
      clear hK K
      try simp only [Act.put, List.setIfInBounds_toArray, List.set_cons_zero, List.set_cons_succ]
      refine wpAnyH_ready (rs := [7]) (by kernel_rfl) (by simp) ?_
      refine AllReadyH.cons (o := ⟨none, .store _ (.tmp 6) (.tmp 17), _, _, _, none⟩) rfl (fun K hK => ?_) AllReadyH.nil
      refine step_st 25 (.tmp 6) (.tmp 17) (by rfl) (by rfl) (by rfl) (f := 0) (by rfl) (l := ivs E) (by rfl) hz5 (by simp [zsi, len_ivs, HEl.out]) (by rw [len_ivs, HEl.out]; exact size38) (oneCell_ivs _) ?_
      intro w7 hy5 hG7
      rw [set38 _ HEl.out] at hy5
      have hy4 := hy4.keep (hG7.block _ hy4.lt (by intro e; injection e with e; exact hne e))
      refine hK.out _ _ (hHeld.grow hG7 (fun k hk => .inr (by injection hk with hk; omega))) (fun hHeld => ?_)
      clear hK K
      try simp only [Act.put, List.setIfInBounds_toArray, List.set_cons_zero, List.set_cons_succ]
      refine wpAnyH_done (by kernel_rfl) ?_ _
      refine NoPanic.normal ?_
      go_wp2
      go_meet
      exact ⟨g4, g5, rfl, rfl, hne, hg4, hg5, hy4, hy5, hHeld.below⟩
    refine AllReadyH.cons (o := ⟨some 5, .alloc _, _, _, _, none⟩) rfl (fun K hK => ?_) AllReadyH.nil
    have hz5l := hz5.lt
    refine step_new 25 (by rfl) (by rfl) zero38 ?_
    intro g4 w4 hg4 hgl4 hz4 hB4
    have hz5 := hz5.below hB4
    have hne : g4 ≠ g5 := fun e => by omega
    have hg4 : wq.heap.size ≤ g4 := Nat.le_trans hHeld.size hg4
    refine hK.out _ _ (hHeld.belowG hB4) (fun hHeld => ?_)
    clear hK K
    try simp only [Act.put, List.setIfInBounds_toArray, List.set_cons_zero, List.set_cons_succ]
    refine wpAnyH_ready (rs := [1]) (by kernel_rfl) (by simp) ?_
    refine AllReadyH.cons (o := ⟨some 15, _, _, _, _, none⟩) rfl (fun K hK => ?_) AllReadyH.nil
    go_simp
    refine (digits_any a _ Ha.out).mono ?_
    rintro e' w1 ⟨rfl, hB1⟩
    rw [← HD.out]
    have hz4 := hz4.below hB1
    have hz5 := hz5.below hB1
    refine hK.out _ _ (hHeld.belowG hB1) (fun hHeld => ?_)
    clear hK K
    try simp only [Act.put, List.setIfInBounds_toArray, List.set_cons_zero, List.set_cons_succ]
    refine wpAnyH_ready (rs := [3]) (by kernel_rfl) (by simp) ?_
    refine AllReadyH.cons (o := ⟨some 17, _, _, _, _, none⟩) rfl (fun K hK => ?_) AllReadyH.nil
    go_simp
    refine (digits_any b _ Hb.out).mono ?_
    rintro e' w3 ⟨rfl, hB3⟩
    rw [← HE.out]
    have hz4 := hz4.below hB3
    have hz5 := hz5.below hB3
    refine hK.out _ _ (hHeld.belowG hB3) (fun hHeld => ?_)
    clear hK K
    try simp only [Act.put, List.setIfInBounds_toArray, List.set_cons_zero, List.set_cons_succ]
    refine wpAnyH_ready (rs := [6]) (by kernel_rfl) (by simp) ?_
    refine AllReadyH.cons (o := ⟨none, .store _ (.tmp 5) (.tmp 15), _, _, _, none⟩) rfl (fun K hK => ?_) AllReadyH.nil
    refine step_st 25 (.tmp 5) (.tmp 15) (by rfl) (by rfl) (by rfl) (f := 0) (by rfl) (l := ivs D) (by rfl) hz4 (by simp [zsi, len_ivs, HDl.out]) (by rw [len_ivs, HDl.out]; exact size38) (oneCell_ivs _) ?_
    intro w6 hy4 hG6
    rw [set38 _ HDl.out] at hy4
    have hz5 := hz5.keep (hG6.block _ hz5.lt (by intro e; injection e with e; exact hne e.symm))
    refine hK.out _ _ (hHeld.grow hG6 (fun k hk => .inr (by injection hk with hk; omega))) (fun hHeld => ?_)
    clear hK K
    try simp only [Act.put, List.setIfInBounds_toArray, List.set_cons_zero, List.set_cons_succ]
    refine wpAnyH_ready (rs := [7]) (by kernel_rfl) (by simp) ?_
    refine AllReadyH.cons (o := ⟨none, .store _ (.tmp 6) (.tmp 17), _, _, _, none⟩) rfl (fun K hK => ?_) AllReadyH.nil
    refine step_st 25 (.tmp 6) (.tmp 17) (by rfl) (by rfl) (by rfl) (f := 0) (by rfl) (l := ivs E) (by rfl) hz5 (by simp [zsi, len_ivs, HEl.out]) (by rw [len_ivs, HEl.out]; exact size38) (oneCell_ivs _) ?_
    intro w7 hy5 hG7
    rw [set38 _ HEl.out] at hy5
    have hy4 := hy4.keep (hG7.block _ hy4.lt (by intro e; injection e with e; exact hne e))
    refine hK.out _ _ (hHeld.grow hG7 (fun k hk => .inr (by injection hk with hk; omega))) (fun hHeld => ?_)
    clear hK K
    try simp only [Act.put, List.setIfInBounds_toArray, List.set_cons_zero, List.set_cons_succ]
    refine wpAnyH_done (by kernel_rfl) ?_ _
    refine NoPanic.normal ?_
    go_wp2
    go_meet
    exact ⟨g4, g5, rfl, rfl, hne, hg4, hg5, hy4, hy5, hHeld.below⟩
  case rest =>
    obtain ⟨g4, g5, rfl, rfl, hne, hg4, hg5, hx, hy, hB2⟩ := hcut
    obtain ⟨wr, hwr⟩ : ∃ wr, wr = wc := ⟨_, rfl⟩
    subst hwr
    have hB2' := hB1'.trans (hB2.mono hB1'.size)
    have hra := HQA.out.below hB2
    have hrb := HQB.out.below hB2
    have HX : Hid (∀ W, Ch nob wr W → W.rangeAt g4 0 (ivs D)) := fun W h => hx.chAt (fun h => h) h
    have HY : Hid (∀ W, Ch nob wr W → W.rangeAt g5 0 (ivs E)) := fun W h => hy.chAt (fun h => h) h
    have HA2 : Hid (∀ W, Ch nob wr W → W.rangeAt g2 0 (bvs a)) := fun W h => hra.chAt (fun h => h) h
    have HB2 : Hid (∀ W, Ch nob wr W → W.rangeAt g3 0 (bvs b)) := fun W h => hrb.chAt (fun h => h) h
    have HX0 := hid hx
    have HY0 := hid hy
    have HA0 := hid hra
    have HB0 := hid hrb
    clear hx hy hra hrb HQA HQB hne HA HB
    go_wp2
    refine wp_region_noPanic ?_
    refine wp_region_held_drew (S := Ch nob wr) (by kernel_rfl) ((Ch.refl _ _).drew) (fun hHeld => ?_)
    refine wpAnyH_take (i := 0) (oi := ⟨some 18, .load 25 (.tmp 5), _, _, _, none⟩) (v := _) rfl (by kernel_rfl) (by kernel_rfl) (by kernel_rfl) (fun _ _ _ h => h) (yieldsIf_load_mid (by rfl) 25 (.tmp 5) (by rfl) _ (0) (by rfl) _ _ (fun _ hs => HX.out _ hs) und38 rfl (by rw [len_ivs, HDl.out]; exact size38)) (by assumption) ?_
    try simp only [Act.put, List.setIfInBounds_toArray, List.set_cons_zero, List.set_cons_succ]
    refine wpAnyH_take (i := 1) (oi := ⟨some 19, .load 23 (.tmp 2), _, _, _, none⟩) (v := _) rfl (by kernel_rfl) (by kernel_rfl) (by kernel_rfl) (fun _ _ _ h => h) (yieldsIf_load_mid (by rfl) 23 (.tmp 2) (by rfl) _ (0) (by rfl) _ _ (fun _ hs => HA2.out _ hs) und25 rfl (by rw [len_bvs, Ha.out]; exact size25)) (by assumption) ?_
    try simp only [Act.put, List.setIfInBounds_toArray, List.set_cons_zero, List.set_cons_succ]
    refine wpAnyH_ready (rs := [2]) (by kernel_rfl) (by simp) ?_
    refine AllReadyH.cons (o := ⟨some 20, _, _, _, _, none⟩) rfl (fun K hK => ?_) AllReadyH.nil
    go_simp
    refine (rdigits_any a _ Ha.out).mono ?_
    rintro e' w11 ⟨v11, rfl, ho11, hB11⟩
    rw [← HD.out] at ho11
    have hC11 := hHeld.belowG hB11
    refine hK.out _ _ (hC11) (fun hHeld => ?_)
    clear hK K
    try simp only [Act.put, List.setIfInBounds_toArray, List.set_cons_zero, List.set_cons_succ]
    refine wpAnyH_ready (rs := [3]) (by kernel_rfl) (by simp) ?_
    refine AllReadyH.cons (o := ⟨some 21, _, _, _, _, none⟩) rfl (fun K hK => ?_) AllReadyH.nil
    go_simp
    refine (same4_any D _ _ _ HDl.out ho11).mono ?_
    rintro e' w12 ⟨rfl, hB12⟩
    have hC12 := hC11.belowG hB12
    refine hK.out _ _ (hC12) (fun hHeld => ?_)
    clear hK K
    try simp only [Act.put, List.setIfInBounds_toArray, List.set_cons_zero, List.set_cons_succ]
    refine wpAnyH_take (i := 4) (oi := ⟨some 22, _, _, _, _, none⟩) (v := ?_) rfl (by kernel_rfl) (by kernel_rfl) (by kernel_rfl) (fun _ _ _ h => h) (Or.inl ⟨by rfl, ?_⟩) (by assumption) ?_
    rotate_left
    · intro w hSw; go_simp; try with_reducible rfl
    try simp only [Act.put, List.setIfInBounds_toArray, List.set_cons_zero, List.set_cons_succ]
    refine wpAnyH_take (i := 5) (oi := ⟨some 23, _, _, _, _, none⟩) (v := ?_) rfl (by kernel_rfl) (by kernel_rfl) (by kernel_rfl) (fun _ _ _ h => h) (Or.inl ⟨by rfl, ?_⟩) (by assumption) ?_
    rotate_left
    · intro w hSw; go_simp; try with_reducible rfl
    try simp only [Act.put, List.setIfInBounds_toArray, List.set_cons_zero, List.set_cons_succ]
    refine wpAnyH_take (i := 6) (oi := ⟨some 24, .load 25 (.tmp 6), _, _, _, some (5, false)⟩) (v := _) rfl (by kernel_rfl) (by kernel_rfl) (by kernel_rfl) (fun _ _ _ h => h) (yieldsIf_load_mid (by rfl) 25 (.tmp 6) (by rfl) _ (0) (by rfl) _ _ (fun _ hs => HY.out _ hs) und38 rfl (by rw [len_ivs, HEl.out]; exact size38)) (by assumption) ?_
    try simp only [Act.put, List.setIfInBounds_toArray, List.set_cons_zero, List.set_cons_succ]
    refine wpAnyH_take (i := 7) (oi := ⟨some 25, .load 23 (.tmp 3), _, _, _, some (5, false)⟩) (v := _) rfl (by kernel_rfl) (by kernel_rfl) (by kernel_rfl) (fun _ _ _ h => h) (yieldsIf_load_mid (by rfl) 23 (.tmp 3) (by rfl) _ (0) (by rfl) _ _ (fun _ hs => HB2.out _ hs) und25 rfl (by rw [len_bvs, Hb.out]; exact size25)) (by assumption) ?_
    try simp only [Act.put, List.setIfInBounds_toArray, List.set_cons_zero, List.set_cons_succ]
    refine wpAnyH_ready (rs := [8]) (by kernel_rfl) (by simp) ?_
    refine AllReadyH.cons (o := ⟨some 26, _, _, _, _, some (5, false)⟩) rfl (fun K hK => ?_) AllReadyH.nil
    go_simp
    refine (rdigits_any b _ Hb.out).mono ?_
    rintro e' w13 ⟨v13, rfl, ho13, hB13⟩
    rw [← HE.out] at ho13
    have hC13 := hC12.belowG hB13
    refine hK.out _ _ (hC13) (fun hHeld => ?_)
    clear hK K
    try simp only [Act.put, List.setIfInBounds_toArray, List.set_cons_zero, List.set_cons_succ]
    refine wpAnyH_ready (rs := [9]) (by kernel_rfl) (by simp) ?_
    refine AllReadyH.cons (o := ⟨some 27, _, _, _, _, some (5, false)⟩) rfl (fun K hK => ?_) AllReadyH.nil
    go_simp
    refine (same4_any E _ _ _ HEl.out ho13).mono ?_
    rintro e' w14 ⟨rfl, hB14⟩
    have hC14 := hC13.belowG hB14
    refine hK.out _ _ (hC14) (fun hHeld => ?_)
    clear hK K
    try simp only [Act.put, List.setIfInBounds_toArray, List.set_cons_zero, List.set_cons_succ]
    refine wpAnyH_take (i := 10) (oi := ⟨some 28, _, _, _, _, some (5, false)⟩) (v := ?_) rfl (by kernel_rfl) (by kernel_rfl) (by kernel_rfl) (fun _ _ _ h => h) (Or.inl ⟨by rfl, ?_⟩) (by assumption) ?_
    rotate_left
    · intro w hSw; go_simp; try with_reducible rfl
    try simp only [Act.put, List.setIfInBounds_toArray, List.set_cons_zero, List.set_cons_succ]
    refine wpAnyH_take (i := 11) (oi := ⟨some 29, _, _, _, _, none⟩) (v := ?_) rfl (by kernel_rfl) (by kernel_rfl) (by kernel_rfl) (fun _ _ _ h => h) (Or.inl ⟨by rfl, ?_⟩) (by assumption) ?_
    rotate_left
    · intro w hSw; go_simp; try with_reducible rfl
    try simp only [Act.put, List.setIfInBounds_toArray, List.set_cons_zero, List.set_cons_succ]
    refine wpAnyH_done (by kernel_rfl) ?_ _
    refine NoPanic.normal ?_
    go_wp2
    have hx := HX0.out.below hC14.below
    have hy := HY0.out.below hC14.below
    have hra := HA0.out.below hC14.below
    have hrb := HB0.out.below hC14.below
    have hB3 := hB2'.trans (hC14.below.mono hB2'.size)
    clear HX HY HA2 HB2 HX0 HY0 HA0 HB0 hB14 hC14 hHeld
    go_loopw [7, 8, 30] (fun pv qv iv wr => ∃ (i n : Nat), i ≤ 35 ∧ pv = .bool (anyLt D E i) ∧ qv = .bool (anyLt E D i) ∧ iv = .int .i64 i ∧ wr = w14.drewN n) (fun _ _ iv _ => 35 - (intOf iv).toNat)
    case atStart => exact ⟨0, 0, by omega, rfl, rfl, rfl, rfl⟩
    case round =>
      obtain ⟨i, n, hi, rfl, rfl, rfl, rfl⟩ := hrel
      by_cases hil : i < 35
      · obtain ⟨x, hxx⟩ : ∃ x, D[i]? = some x := ⟨_, List.getElem?_eq_getElem (by rw [HDl.out]; exact hil)⟩
        obtain ⟨y, hyy⟩ : ∃ y, E[i]? = some y := ⟨_, List.getElem?_eq_getElem (by rw [HEl.out]; exact hil)⟩
        have c1 := hx.cellAt i _ (ivs_at D i x hxx)
        have c2 := hy.cellAt i _ (ivs_at E i y hyy)
        have s1 := hid (anyLt_succ D E i x y hxx hyy)
        have s2 := hid (anyLt_succ E D i y x hyy hxx)
        obtain ⟨p, hp⟩ : ∃ p, p = anyLt D E i := ⟨_, rfl⟩
        obtain ⟨q, hq⟩ : ∃ q, q = anyLt E D i := ⟨_, rfl⟩
        rw [← hp] at s1 ⊢
        rw [← hq] at s2 ⊢
        clear hp hq hxx hyy hx hy hra hrb
        cases p <;> cases q
        all_goals
          go_wp2
          go_quiet (fail)
          go_wp2
          go_quiet (fail)
          go_wp2
          go_roundw
          case rel => exact ⟨i + 1, _, by omega, by rw [s1.out]; simp, by rw [s2.out]; simp, by go_num, rfl⟩
          case measure => simp [intOf]; omega
      · have h35 : i = 35 := by omega
        subst h35
        rw [← hlaw1.out, ← hlaw2.out]
        clear hx hy hil
        go_wp2
        go_loopw [9, 54] (fun pv iv wr => ∃ (i n : Nat), i ≤ 16 ∧ pv = .bool (anyNe a b i) ∧ iv = .int .i64 i ∧ wr = w14.drewN n) (fun _ iv _ => 16 - (intOf iv).toNat)
        case atStart => exact ⟨0, _, by omega, rfl, rfl, rfl⟩
        case round =>
          obtain ⟨i, n, hi, rfl, rfl, rfl⟩ := hrel
          by_cases hil : i < 16
          · obtain ⟨x, hxx⟩ : ∃ x, a[i]? = some x := ⟨_, List.getElem?_eq_getElem (by rw [Ha.out]; omega)⟩
            obtain ⟨y, hyy⟩ : ∃ y, b[i]? = some y := ⟨_, List.getElem?_eq_getElem (by rw [Hb.out]; omega)⟩
            have c1 := hra.cellAt i _ (bvs_at a i x hxx)
            have c2 := hrb.cellAt i _ (bvs_at b i y hyy)
            unfold byteV at c1 c2
            have s1 := hid (anyNe_succ a b i x y hxx hyy)
            have hne : Hid (((x.toNat : Int) != (y.toNat : Int)) = decide (x ≠ y)) := by
              show _ = _
              by_cases h : x = y
              · subst h; simp
              · have : x.toNat ≠ y.toNat := fun e => h (UInt8.toNat_inj.1 e)
                rw [decide_eq_true h, bne_iff_ne]
                omega
            obtain ⟨p, hp⟩ : ∃ p, p = anyNe a b i := ⟨_, rfl⟩
            rw [← hp] at s1 ⊢
            clear hp hxx hyy hra hrb
            cases p
            all_goals
              go_wp2
              go_quiet (fail)
              go_wp2
              go_roundw
              case rel => exact ⟨i + 1, _, by omega, by rw [s1.out]; first | rfl | (rw [hne.out]; simp), by go_num, rfl⟩
              case measure => simp [intOf]; omega
          · have h16 : i = 16 := by omega
            subst h16
            obtain ⟨p, hp⟩ : ∃ p, p = anyNe a b 16 := ⟨_, rfl⟩
            rw [← hp]
            clear hp hlaw1 hlaw2
            cases p
            all_goals
              go_wp2
              go_ret
              exact ⟨rfl, below_drewN hB3 _⟩
end Go.Proofs.Ytigojjdoacfdgaa
