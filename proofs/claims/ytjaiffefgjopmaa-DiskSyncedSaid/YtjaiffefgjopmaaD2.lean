/- D2: layer 10: the document's named, Done. -/
import Derived.Test.YtjaiffefgjopmaaD1
import Derived.Deep.DeepCutAuto
namespace Go.V
open Go.RowKit
def namF (n : ByteArray) : Bool := decide (1 ≤ n.size ∧ n.size ≤ 24)
end Go.V
namespace Go.Proofs.Ytjaiffefgjopmaa
open Go.RowKit Go.V
theorem named_any (n : ByteArray) (w : World) :
    Calls Try.prog 34 #[.string n] w fun e w' => e = .returned (.bool (namF n)) ∧ w' = w := by
  by_cases h1 : 1 ≤ n.size
  · have h1I : (1 : Int) ≤ (n.size : Int) := by omega
    have hd1 : decide ((1 : Int) ≤ (n.size : Int)) = true := decide_eq_true h1I
    by_cases h2 : n.size ≤ 24
    · have h2I : (n.size : Int) ≤ 24 := by omega
      have hd2 : decide ((n.size : Int) ≤ 24) = true := decide_eq_true h2I
      have hr : Hid (namF n = true) := decide_eq_true ⟨h1, h2⟩
      go_enter Try.func34, Try.ntmps34
      go_wp2
      go_ret
      exact ⟨by rw [hr.out]; rfl, rfl⟩
    · have h2I : ¬ (n.size : Int) ≤ 24 := by omega
      have hd2 : decide ((n.size : Int) ≤ 24) = false := decide_eq_false h2I
      have hr : Hid (namF n = false) := decide_eq_false (fun h => h2 h.2)
      go_enter Try.func34, Try.ntmps34
      go_wp2
      go_ret
      exact ⟨by rw [hr.out]; rfl, rfl⟩
  · have h1I : ¬ (1 : Int) ≤ (n.size : Int) := by omega
    have hd1 : decide ((1 : Int) ≤ (n.size : Int)) = false := decide_eq_false h1I
    have hr : Hid (namF n = false) := decide_eq_false (fun h => h1 h.1)
    go_enter Try.func34, Try.ntmps34
    go_wp2
    go_ret
    exact ⟨by rw [hr.out]; rfl, rfl⟩
set_option maxRecDepth 100000 in
set_option maxHeartbeats 4000000 in
theorem done_any10 (l : List Fl) (a : Ac) (vl va : Value) (F : Nat → Prop) (w : World) (hl : Rd w F vl (wds flD l)) (hva : Rd w F va (bys a.b)) (hn : l.length ≤ 1000000) (hfb : ∀ f ∈ l, f.b.length ≤ 1000000000) (hab : a.b.length ≤ 1000000000) :
    Calls Try.prog 36 #[vl, .agg (a.l va).toArray] w fun e w' => ∃ v', e = .returned v' ∧ Rd w' (fun b => F b ∨ w.heap.size ≤ b) v' (wds flD (doneF l a)) ∧ Below w.heap.size w w' := by
  obtain ⟨A, c, rfl, _, _⟩ := wds_shape hl
  obtain ⟨Aa, ca, rfl⟩ := hva.shape
  have hdn : doneF l a = if a.k = 0 then withF l a.n ((findF l a.n).getD [] ++ a.b) else if a.k = 1 then withF l a.n a.b else if a.k = 2 then (match findF l a.n with
    | some b => withF (woF l a.n) a.t b
    | none => l) else if a.k = 3 then woF l a.n else l := rfl
  have hfl : ((findF l a.n).getD []).length ≤ 1000000000 := by
    have key : ∀ (l : List Fl), (∀ f ∈ l, f.b.length ≤ 1000000000) → ((findF l a.n).getD []).length ≤ 1000000000 := by
      intro l
      induction l with
      | nil => intro _; simp [findF]
      | cons f l ih =>
        intro h
        unfold findF
        split
        · simpa using h f (by simp)
        · exact ih (fun g hg => h g (by simp [hg]))
    exact key l hfb
  obtain ⟨R, hR⟩ : ∃ R, R = doneF l a := ⟨_, rfl⟩
  rw [← hR] at hdn ⊢
  have hbb := Blk.new' w 34 (a.l (.slice Aa a.b.length ca))
  have hB : Below w.heap.size w (w.alloc (.cells (a.l (.slice Aa a.b.length ca)).toArray 34)) := (Below.refl _ _).alloc (Nat.le_refl _) _
  have hl := hl.below hB
  have hva := hva.below hB
  have c0 := hbb.cellAt 0 _ rfl
  have c1 := hbb.cellAt 1 _ rfl
  have Hdn := hid hdn
  clear hdn hR
  go_enter Try.func36, Try.ntmps36
  go_wp2_with (fail)
  obtain ⟨w1, hw1⟩ : ∃ x, x = w.alloc (.cells (a.l (.slice Aa a.b.length ca)).toArray 34) := ⟨_, rfl⟩
  rw [← hw1] at hbb hB hl hva c0 c1 ⊢
  clear hw1
  obtain ⟨g, hg⟩ : ∃ g, g = w.heap.size := ⟨_, rfl⟩
  rw [← hg] at hbb c0 c1 ⊢
  clear hg
  have hsz := hB.size
  refine (find_any l a.n _ F _ hl).mono ?_
  rintro e w2 ⟨vb, rfl, hvb, hw2⟩
  subst hw2
  obtain ⟨fo, hfo⟩ : ∃ fo, fo = findF l a.n := ⟨_, rfl⟩
  rw [← hfo] at hvb hfl ⊢
  rw [← hfo] at Hdn
  clear hfo
  obtain ⟨B, hBB⟩ : ∃ B, B = fo.getD [] := ⟨_, rfl⟩
  rw [← hBB] at hvb hfl Hdn
  obtain ⟨Ab, cb, rfl⟩ := hvb.shape
  have HN : Hid (∀ W, Ch nob w2 W → W.cell? ⟨g, 1, none⟩ = some (.string a.n)) := fun W h => (hbb.ch h (fun h => h)).cellAt 1 _ rfl
  have HT : Hid (∀ W, Ch nob w2 W → W.cell? ⟨g, 2, none⟩ = some (.string a.t)) := fun W h => (hbb.ch h (fun h => h)).cellAt 2 _ rfl
  have HBB : Hid (∀ W, Ch nob w2 W → W.cell? ⟨g, 3, none⟩ = some (.slice Aa a.b.length ca)) := fun W h => (hbb.ch h (fun h => h)).cellAt 3 _ rfl
  have c2 := hbb.cellAt 2 _ rfl
  have c3 := hbb.cellAt 3 _ rfl
  have hBB2 := hid hBB
  clear hBB hbb
  by_cases h0 : a.k = 0
  · have hd := Hdn.out
    rw [if_pos h0] at hd
    have Hd := hid hd
    have hb0 : (a.k == 0) = true := by rw [h0]; rfl
    clear hd h0 Hdn
    go_upto_region 4 with (fail)
    refine wp_region_noPanic ?_
    refine wp_region_held_drew (S := Ch nob w2) (by kernel_rfl) ((Ch.refl _ _).drew) (fun hHeld => ?_)
    refine wpAnyH_take (i := 0) (oi := ⟨some 18, _, _, _, _, none⟩) (v := ?_) rfl (by kernel_rfl) (by kernel_rfl) (by kernel_rfl) (fun _ _ _ h => h) (Or.inl ⟨by rfl, ?_⟩) (by assumption) ?_
    rotate_left
    · intro w hSw; go_simp; try with_reducible rfl
    try simp only [Act.put, List.setIfInBounds_toArray, List.set_cons_zero, List.set_cons_succ]
    refine wpAnyH_take (i := 1) (oi := ⟨some 19, _, _, _, _, none⟩) (v := ?_) rfl (by kernel_rfl) (by kernel_rfl) (by kernel_rfl) (fun _ _ _ h => h) (Or.inl ⟨by rfl, ?_⟩) (by assumption) ?_
    rotate_left
    · intro w hSw; go_simp; try with_reducible rfl
    try simp only [Act.put, List.setIfInBounds_toArray, List.set_cons_zero, List.set_cons_succ]
    refine wpAnyH_take (i := 2) (oi := ⟨some 20, _, _, _, _, none⟩) (v := ?_) rfl (by kernel_rfl) (by kernel_rfl) (by kernel_rfl) (fun _ _ _ h => h) (Or.inl ⟨by rfl, ?_⟩) (by assumption) ?_
    rotate_left
    · intro w hSw; have hcw := HN.out w hSw; go_simp; try with_reducible rfl
    try simp only [Act.put, List.setIfInBounds_toArray, List.set_cons_zero, List.set_cons_succ]
    refine wpAnyH_take (i := 3) (oi := ⟨some 21, _, _, _, _, none⟩) (v := ?_) rfl (by kernel_rfl) (by kernel_rfl) (by kernel_rfl) (fun _ _ _ h => h) (Or.inl ⟨by rfl, ?_⟩) (by assumption) ?_
    rotate_left
    · intro w hSw; go_simp; try with_reducible rfl
    try simp only [Act.put, List.setIfInBounds_toArray, List.set_cons_zero, List.set_cons_succ]
    refine wpAnyH_take (i := 4) (oi := ⟨some 22, _, _, _, _, none⟩) (v := ?_) rfl (by kernel_rfl) (by kernel_rfl) (by kernel_rfl) (fun _ _ _ h => h) (Or.inl ⟨by rfl, ?_⟩) (by assumption) ?_
    rotate_left
    · intro w hSw; go_simp; try with_reducible rfl
    try simp only [Act.put, List.setIfInBounds_toArray, List.set_cons_zero, List.set_cons_succ]
    refine wpAnyH_take (i := 5) (oi := ⟨some 23, _, _, _, _, none⟩) (v := ?_) rfl (by kernel_rfl) (by kernel_rfl) (by kernel_rfl) (fun _ _ _ h => h) (Or.inl ⟨by rfl, ?_⟩) (by assumption) ?_
    rotate_left
    · intro w hSw; have hcw := HBB.out w hSw; go_simp; try with_reducible rfl
    try simp only [Act.put, List.setIfInBounds_toArray, List.set_cons_zero, List.set_cons_succ]
    refine wpAnyH_ready (rs := [6]) (by kernel_rfl) (by simp) ?_
    refine AllReadyH.cons (o := ⟨some 24, _, _, _, _, none⟩) rfl (fun K hK => ?_) AllReadyH.nil
    go_simp
    refine (join_any _ _ B a.b F F _ (hvb.ext hHeld) (hva.ext hHeld) (by omega) (by omega)).mono ?_
    rintro e' w11 ⟨v11, rfl, ho11, hB11⟩
    have hC11 := hHeld.belowR hB11
    have hr11 := (Rd.of_own ho11).weak (F' := fun b => F b ∨ w.heap.size ≤ b) (fun b _ h => .inr (Nat.le_trans hsz h))
    refine hK.out _ _ (hC11) (fun hHeld => ?_)
    clear hK K
    try simp only [Act.put, List.setIfInBounds_toArray, List.set_cons_zero, List.set_cons_succ]
    refine wpAnyH_ready (rs := [7]) (by kernel_rfl) (by simp) ?_
    refine AllReadyH.cons (o := ⟨some 25, _, _, _, _, none⟩) rfl (fun K hK => ?_) AllReadyH.nil
    go_simp
    refine (with_any l a.n (B ++ a.b) _ v11 (fun b => F b ∨ w.heap.size ≤ b) _ ((hl.ext hC11).weak (fun b _ h => .inl h)) hr11 hn).mono ?_
    rintro e' w12 ⟨v12, rfl, hr12, hB12⟩
    have hC12 := hC11.belowR hB12
    refine hK.out _ _ (hC12) (fun hHeld => ?_)
    clear hK K
    try simp only [Act.put, List.setIfInBounds_toArray, List.set_cons_zero, List.set_cons_succ]
    refine wpAnyH_take (i := 8) (oi := ⟨some 4, _, _, _, _, none⟩) (v := ?_) rfl (by kernel_rfl) (by kernel_rfl) (by kernel_rfl) (fun _ _ _ h => h) (Or.inl ⟨by rfl, ?_⟩) (by assumption) ?_
    rotate_left
    · intro w hSw; go_simp; try with_reducible rfl
    try simp only [Act.put, List.setIfInBounds_toArray, List.set_cons_zero, List.set_cons_succ]
    refine wpAnyH_done (by kernel_rfl) ?_ _
    refine NoPanic.normal ?_
    go_wp2
    go_ret
    exact ⟨_, rfl, by rw [Hd.out]; exact hr12.weak (fun b _ h => h.elim id (fun h => .inr (Nat.le_trans hsz (Nat.le_trans hC11.size h)))), hB.trans (hC12.below.mono hB.size)⟩
  have hb0 : (a.k == 0) = false := by rw [beq_eq_false_iff_ne]; exact h0
  by_cases h1 : a.k = 1
  · have hd := Hdn.out
    rw [if_neg h0, if_pos h1] at hd
    have Hd := hid hd
    have hb1 : (a.k == 1) = true := by rw [h1]; rfl
    clear hd h0 h1 Hdn
    go_wp2_with (fail)
    refine (with_any l a.n a.b _ _ F _ hl hva hn).mono ?_
    rintro e w3 ⟨v3, rfl, hr3, hB3⟩
    go_wp2
    go_ret
    exact ⟨_, rfl, by rw [Hd.out]; exact hr3.weak (fun b _ h => h.elim .inl (fun h => .inr (Nat.le_trans hsz h))), hB.trans (hB3.mono hB.size)⟩
  have hb1 : (a.k == 1) = false := by rw [beq_eq_false_iff_ne]; exact h1
  by_cases h2 : a.k = 2
  · have hd := Hdn.out
    rw [if_neg h0, if_neg h1, if_pos h2] at hd
    have Hd := hid hd
    have hb2 : (a.k == 2) = true := by rw [h2]; rfl
    clear hd h0 h1 h2 Hdn
    cases fo with
    | none =>
      go_wp2
      go_ret
      exact ⟨_, rfl, by rw [Hd.out]; exact hl.weak (fun b _ h => .inl h), hB⟩
    | some B' =>
      have hB' : B = B' := hBB2.out
      subst hB'
      have Hd2 : Hid (R = withF (woF l a.n) a.t B) := Hd.out
      clear Hd
      go_upto_region 9 with (fail)
      refine wp_region_noPanic ?_
      refine wp_region_held_drew (S := Ch nob w2) (by kernel_rfl) ((Ch.refl _ _).drew) (fun hHeld => ?_)
      refine wpAnyH_take (i := 0) (oi := ⟨some 37, _, _, _, _, none⟩) (v := ?_) rfl (by kernel_rfl) (by kernel_rfl) (by kernel_rfl) (fun _ _ _ h => h) (Or.inl ⟨by rfl, ?_⟩) (by assumption) ?_
      rotate_left
      · intro w hSw; go_simp; try with_reducible rfl
      try simp only [Act.put, List.setIfInBounds_toArray, List.set_cons_zero, List.set_cons_succ]
      refine wpAnyH_take (i := 1) (oi := ⟨some 38, _, _, _, _, none⟩) (v := ?_) rfl (by kernel_rfl) (by kernel_rfl) (by kernel_rfl) (fun _ _ _ h => h) (Or.inl ⟨by rfl, ?_⟩) (by assumption) ?_
      rotate_left
      · intro w hSw; go_simp; try with_reducible rfl
      try simp only [Act.put, List.setIfInBounds_toArray, List.set_cons_zero, List.set_cons_succ]
      refine wpAnyH_take (i := 2) (oi := ⟨some 39, _, _, _, _, none⟩) (v := ?_) rfl (by kernel_rfl) (by kernel_rfl) (by kernel_rfl) (fun _ _ _ h => h) (Or.inl ⟨by rfl, ?_⟩) (by assumption) ?_
      rotate_left
      · intro w hSw; have hcw := HN.out w hSw; go_simp; try with_reducible rfl
      try simp only [Act.put, List.setIfInBounds_toArray, List.set_cons_zero, List.set_cons_succ]
      refine wpAnyH_take (i := 4) (oi := ⟨some 41, _, _, _, _, none⟩) (v := ?_) rfl (by kernel_rfl) (by kernel_rfl) (by kernel_rfl) (fun _ _ _ h => h) (Or.inl ⟨by rfl, ?_⟩) (by assumption) ?_
      rotate_left
      · intro w hSw; go_simp; try with_reducible rfl
      try simp only [Act.put, List.setIfInBounds_toArray, List.set_cons_zero, List.set_cons_succ]
      refine wpAnyH_take (i := 5) (oi := ⟨some 42, _, _, _, _, none⟩) (v := ?_) rfl (by kernel_rfl) (by kernel_rfl) (by kernel_rfl) (fun _ _ _ h => h) (Or.inl ⟨by rfl, ?_⟩) (by assumption) ?_
      rotate_left
      · intro w hSw; have hcw := HT.out w hSw; go_simp; try with_reducible rfl
      try simp only [Act.put, List.setIfInBounds_toArray, List.set_cons_zero, List.set_cons_succ]
      refine wpAnyH_take (i := 6) (oi := ⟨some 43, _, _, _, _, none⟩) (v := ?_) rfl (by kernel_rfl) (by kernel_rfl) (by kernel_rfl) (fun _ _ _ h => h) (Or.inl ⟨by rfl, ?_⟩) (by assumption) ?_
      rotate_left
      · intro w hSw; go_simp; try with_reducible rfl
      try simp only [Act.put, List.setIfInBounds_toArray, List.set_cons_zero, List.set_cons_succ]
      refine wpAnyH_ready (rs := [3]) (by kernel_rfl) (by simp) ?_
      refine AllReadyH.cons (o := ⟨some 40, _, _, _, _, none⟩) rfl (fun K hK => ?_) AllReadyH.nil
      go_simp
      refine (without_any l a.n _ F _ (hl.ext hHeld) hn).mono ?_
      rintro e' w11 ⟨v11, rfl, hr11, hB11⟩
      have hC11 := hHeld.belowR hB11
      have hr11 := hr11.weak (F' := fun b => F b ∨ w.heap.size ≤ b) (fun b _ h => h.elim .inl (fun h => .inr (Nat.le_trans hsz (Nat.le_trans hHeld.size h))))
      refine hK.out _ _ (hC11) (fun hHeld => ?_)
      clear hK K
      try simp only [Act.put, List.setIfInBounds_toArray, List.set_cons_zero, List.set_cons_succ]
      refine wpAnyH_ready (rs := [7]) (by kernel_rfl) (by simp) ?_
      refine AllReadyH.cons (o := ⟨some 44, _, _, _, _, none⟩) rfl (fun K hK => ?_) AllReadyH.nil
      go_simp
      refine (with_any (woF l a.n) a.t B v11 _ (fun b => F b ∨ w.heap.size ≤ b) _ hr11 ((hvb.ext hC11).weak (fun b _ h => .inl h)) (Nat.le_trans (wo_len _ _) hn)).mono ?_
      rintro e' w12 ⟨v12, rfl, hr12, hB12⟩
      have hC12 := hC11.belowR hB12
      refine hK.out _ _ (hC12) (fun hHeld => ?_)
      clear hK K
      try simp only [Act.put, List.setIfInBounds_toArray, List.set_cons_zero, List.set_cons_succ]
      refine wpAnyH_take (i := 8) (oi := ⟨some 4, _, _, _, _, none⟩) (v := ?_) rfl (by kernel_rfl) (by kernel_rfl) (by kernel_rfl) (fun _ _ _ h => h) (Or.inl ⟨by rfl, ?_⟩) (by assumption) ?_
      rotate_left
      · intro w hSw; go_simp; try with_reducible rfl
      try simp only [Act.put, List.setIfInBounds_toArray, List.set_cons_zero, List.set_cons_succ]
      refine wpAnyH_done (by kernel_rfl) ?_ _
      refine NoPanic.normal ?_
      go_wp2
      go_ret
      exact ⟨_, rfl, by rw [Hd2.out]; exact hr12.weak (fun b _ h => h.elim id (fun h => .inr (Nat.le_trans hsz (Nat.le_trans hC11.size h)))), hB.trans (hC12.below.mono hB.size)⟩
  have hb2 : (a.k == 2) = false := by rw [beq_eq_false_iff_ne]; exact h2
  by_cases h3 : a.k = 3
  · have hd := Hdn.out
    rw [if_neg h0, if_neg h1, if_neg h2, if_pos h3] at hd
    have Hd := hid hd
    have hb3 : (a.k == 3) = true := by rw [h3]; rfl
    clear hd h0 h1 h2 h3 Hdn
    go_wp2_with (fail)
    refine (without_any l a.n _ F _ hl hn).mono ?_
    rintro e w3 ⟨v3, rfl, hr3, hB3⟩
    go_wp2
    go_ret
    exact ⟨_, rfl, by rw [Hd.out]; exact hr3.weak (fun b _ h => h.elim .inl (fun h => .inr (Nat.le_trans hsz h))), hB.trans (hB3.mono hB.size)⟩
  have hb3 : (a.k == 3) = false := by rw [beq_eq_false_iff_ne]; exact h3
  have hd := Hdn.out
  rw [if_neg h0, if_neg h1, if_neg h2, if_neg h3] at hd
  have Hd := hid hd
  clear hd h0 h1 h2 h3 Hdn
  go_wp2
  go_ret
  exact ⟨_, rfl, by rw [Hd.out]; exact hl.weak (fun b _ h => .inl h), hB⟩
end Go.Proofs.Ytjaiffefgjopmaa
