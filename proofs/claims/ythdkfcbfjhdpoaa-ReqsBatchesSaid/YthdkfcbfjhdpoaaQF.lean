/- QF: layer 7: SameAll; the law ReqsBatches. -/
import Derived.Test.YthdkfcbfjhdpoaaQE
import Derived.Test.YthdkfcbfjhdpoaaQ8
namespace Go.Proofs.Ythdkfcbfjhdpoaa
open Go.RowKit Go.V
theorem World.rangeAt.ext7 {w w' : World} {g o : Nat} {l : List Value} (h : w.rangeAt g o l) (hc : Ch nob w w') : w'.rangeAt g o l := fun j v hv => by
  have := h j v hv
  exact (World.cell?_of_block (hc.block g (lt_of_cell this) (fun h => h))).trans this
set_option maxRecDepth 100000 in
set_option maxHeartbeats 2000000 in
theorem sameAll_any (v1 v2 : Value) (l : List Rq) (F1 F2 : Nat → Prop) (w : World) (h1 : Rd w F1 v1 (rqs l)) (h2 : Rd w F2 v2 (rqs l)) (hn : 1 ≤ l.length) (hn4 : l.length ≤ 4) :
    Calls Try.prog 19 #[v1, v2] w fun e w' => e = .returned (.bool true) ∧ Below w.heap.size w w' := by
  obtain ⟨G1, off1, c1, rfl⟩ := rqs_spot h1 hn
  obtain ⟨G2, off2, c2, rfl⟩ := rqs_spot h2 hn
  go_enter Try.func19, Try.ntmps19
  go_wp2
  go_loopw [5] (fun iv wr => ∃ i : Nat, i ≤ l.length ∧ iv = .int .i64 i ∧ Below w.heap.size w wr) (fun i _ => l.length - (intOf i).toNat)
  case atStart => exact ⟨0, Nat.zero_le _, rfl, Below.refl _ _⟩
  case round =>
    obtain ⟨i, hi, rfl, hBr⟩ := hrel
    by_cases hlt : i < l.length
    · obtain ⟨r, hr⟩ : ∃ r, l[i]? = some r := ⟨_, List.getElem?_eq_getElem hlt⟩
      have hI : (i : Int) < (l.length : Int) := by omega
      obtain ⟨u1, hx1, hu1⟩ := rqs_el (h1.below hBr) hr
      obtain ⟨u2, hx2, hu2⟩ := rqs_el (h2.below hBr) hr
      clear hr
      go_upto_region 6 with (fail)
      have H1 : Hid (∀ W, Ch nob wr W → W.rangeAt G1 (off1 + i * 7) (r.l u1)) := fun W h => World.rangeAt.ext7 hx1 h
      have H2 : Hid (∀ W, Ch nob wr W → W.rangeAt G2 (off2 + i * 7) (r.l u2)) := fun W h => World.rangeAt.ext7 hx2 h
      refine wp_region_noPanic ?_
      refine wp_region_held_drew (S := Ch nob wr) (by kernel_rfl) ((Ch.refl _ _).drew) (fun hHeld => ?_)
      refine wpAnyH_take (i := 0) (oi := ⟨some 17, _, _, _, _, none⟩) (v := ?_) rfl (by kernel_rfl) (by kernel_rfl) (by kernel_rfl) (fun _ _ _ h => h) (Or.inl ⟨by rfl, ?_⟩) (by assumption) ?_
      rotate_left
      · intro w hSw; go_simp; try with_reducible rfl
      try simp only [Act.put, List.setIfInBounds_toArray, List.set_cons_zero, List.set_cons_succ]
      refine wpAnyH_take (i := 1) (oi := ⟨some 18, _, _, _, _, none⟩) (v := ?_) rfl (by kernel_rfl) (by kernel_rfl) (by kernel_rfl) (fun _ _ _ h => h) (Or.inl ⟨by rfl, ?_⟩) (by assumption) ?_
      rotate_left
      · intro w hSw; go_simp; try with_reducible rfl
      try simp only [Act.put, List.setIfInBounds_toArray, List.set_cons_zero, List.set_cons_succ]
      refine wpAnyH_take (i := 2) (oi := ⟨some 19, _, _, _, _, none⟩) (v := _) rfl (by kernel_rfl) (by kernel_rfl) (by kernel_rfl) (fun _ _ _ h => h) (yi_ixa (by rfl) 39 (.tmp 17) (.tmp 18) (by rfl) (by rfl) (i := i) (by rfl) Try.underlying39 hlt sizeQ) (by assumption) ?_
      try simp only [Act.put, List.setIfInBounds_toArray, List.set_cons_zero, List.set_cons_succ]
      refine wpAnyH_take (i := 3) (oi := ⟨some 20, .load 26 (.tmp 19), _, _, _, none⟩) (v := _) rfl (by kernel_rfl) (by kernel_rfl) (by kernel_rfl) (fun _ _ _ h => h) (yieldsIf_load_mid (by rfl) 26 (.tmp 19) (by rfl) _ (off1 + i * 7) (by rfl) _ _ (fun _ hs => H1.out _ hs) Try.underlying26 rfl (sizeQ)) (by assumption) ?_
      try simp only [Act.put, List.setIfInBounds_toArray, List.set_cons_zero, List.set_cons_succ]
      refine wpAnyH_take (i := 4) (oi := ⟨some 21, _, _, _, _, none⟩) (v := ?_) rfl (by kernel_rfl) (by kernel_rfl) (by kernel_rfl) (fun _ _ _ h => h) (Or.inl ⟨by rfl, ?_⟩) (by assumption) ?_
      rotate_left
      · intro w hSw; go_simp; try with_reducible rfl
      try simp only [Act.put, List.setIfInBounds_toArray, List.set_cons_zero, List.set_cons_succ]
      refine wpAnyH_take (i := 5) (oi := ⟨some 22, _, _, _, _, none⟩) (v := ?_) rfl (by kernel_rfl) (by kernel_rfl) (by kernel_rfl) (fun _ _ _ h => h) (Or.inl ⟨by rfl, ?_⟩) (by assumption) ?_
      rotate_left
      · intro w hSw; go_simp; try with_reducible rfl
      try simp only [Act.put, List.setIfInBounds_toArray, List.set_cons_zero, List.set_cons_succ]
      refine wpAnyH_take (i := 6) (oi := ⟨some 23, _, _, _, _, none⟩) (v := _) rfl (by kernel_rfl) (by kernel_rfl) (by kernel_rfl) (fun _ _ _ h => h) (yi_ixa (by rfl) 39 (.tmp 21) (.tmp 22) (by rfl) (by rfl) (i := i) (by rfl) Try.underlying39 hlt sizeQ) (by assumption) ?_
      try simp only [Act.put, List.setIfInBounds_toArray, List.set_cons_zero, List.set_cons_succ]
      refine wpAnyH_take (i := 7) (oi := ⟨some 24, .load 26 (.tmp 23), _, _, _, none⟩) (v := _) rfl (by kernel_rfl) (by kernel_rfl) (by kernel_rfl) (fun _ _ _ h => h) (yieldsIf_load_mid (by rfl) 26 (.tmp 23) (by rfl) _ (off2 + i * 7) (by rfl) _ _ (fun _ hs => H2.out _ hs) Try.underlying26 rfl (sizeQ)) (by assumption) ?_
      try simp only [Act.put, List.setIfInBounds_toArray, List.set_cons_zero, List.set_cons_succ]
      refine wpAnyH_ready (rs := [8]) (by kernel_rfl) (by simp) ?_
      refine AllReadyH.cons (o := ⟨some 25, _, _, _, _, none⟩) rfl (fun K hK => ?_) AllReadyH.nil
      go_simp
      refine (same7_any r _ _ _ _ _ (hu1.ext hHeld) (hu2.ext hHeld)).mono ?_
      rintro e' w11 ⟨rfl, hB11⟩
      have hC11 := hHeld.belowR hB11
      refine hK.out _ _ (hC11) (fun hHeld => ?_)
      clear hK K
      try simp only [Act.put, List.setIfInBounds_toArray, List.set_cons_zero, List.set_cons_succ]
      refine wpAnyH_take (i := 9) (oi := ⟨some 26, _, _, _, _, none⟩) (v := ?_) rfl (by kernel_rfl) (by kernel_rfl) (by kernel_rfl) (fun _ _ _ h => h) (Or.inl ⟨by rfl, ?_⟩) (by assumption) ?_
      rotate_left
      · intro w hSw; go_simp; try with_reducible rfl
      try simp only [Act.put, List.setIfInBounds_toArray, List.set_cons_zero, List.set_cons_succ]
      refine wpAnyH_done (by kernel_rfl) ?_ _
      refine NoPanic.normal ?_
      go_wp2
      go_roundw
      case rel => exact ⟨i + 1, by omega, by go_num, hBr.trans (hC11.below.mono hBr.size)⟩
      case measure => simp [intOf]; omega
    · have hi' : i = l.length := by omega
      subst hi'
      have hI : ¬ (l.length : Int) < (l.length : Int) := by omega
      go_wp2
      go_ret
      exact ⟨rfl, hBr⟩
set_option maxRecDepth 100000 in
set_option maxHeartbeats 4000000 in
theorem reqsBatches_law (v : Value) (l : List Rq) (F : Nat → Prop) (w : World) (hv : Rd w F v (rqs l)) (ho : ∀ r ∈ l, in64 r.a ∧ in64 r.b) :
    Calls Try.prog 4 #[v] w fun e w' => e = .returned (.bool true) ∧ Below w.heap.size w w' := by
  obtain ⟨G0, c0, rfl⟩ := rqs_shape hv
  go_enter Try.func4, Try.ntmps4
  go_wp2_with (fail)
  refine (wakes7_any _).mono ?_
  rintro e w1 ⟨rfl, hB1⟩
  by_cases hl : 10 < l.length
  · have hI : (10 : Int) < (l.length : Int) := by omega
    go_wp2
    go_ret
    exact ⟨rfl, hB1⟩
  have hI : ¬ (10 : Int) < (l.length : Int) := by omega
  go_wp2
  go_loopw [17] (fun iv wr => ∃ i : Nat, i ≤ l.length ∧ iv = .int .i64 i ∧ Below w.heap.size w wr) (fun i _ => l.length - (intOf i).toNat)
  case atStart => exact ⟨0, Nat.zero_le _, rfl, hB1⟩
  case round =>
    obtain ⟨i, hi, rfl, hBr⟩ := hrel
    by_cases hlt : i < l.length
    · obtain ⟨r, hr⟩ : ∃ r, l[i]? = some r := ⟨_, List.getElem?_eq_getElem hlt⟩
      have hIl : (i : Int) < (l.length : Int) := by omega
      obtain ⟨G, off, cp, hsp⟩ := rqs_spot hv (by omega)
      injection hsp with hG hn' hc
      subst hG hc
      obtain ⟨u, hx, hu⟩ := rqs_el (hv.below hBr) hr
      obtain ⟨A1, c1, rfl⟩ := hu.shape
      have c6 : wr.cell? ⟨G, off + i * 7 + 6, none⟩ = some (.slice A1 r.g.length c1) := hx 6 _ rfl
      clear hr hx
      by_cases hg : 2000 < r.g.length
      · have hgI : (2000 : Int) < (r.g.length : Int) := by omega
        go_wp2_with (refine wp_ixa 39 (.tmp 20) (.tmp 21) rfl rfl rfl rfl Try.underlying39 hlt sizeQ ?_)
        go_ret
        exact ⟨rfl, hBr⟩
      · have hgI : ¬ (2000 : Int) < (r.g.length : Int) := by omega
        go_wp2_with (refine wp_ixa 39 (.tmp 20) (.tmp 21) rfl rfl rfl rfl Try.underlying39 hlt sizeQ ?_)
        go_roundw
        case rel => exact ⟨i + 1, by omega, by go_num, hBr⟩
        case measure => simp [intOf]; omega
    · have hi' : i = l.length := by omega
      subst hi'
      have hIl : ¬ (l.length : Int) < (l.length : Int) := by omega
      cases hf : fmB l with
      | false =>
        have hp := fun W h => putb_false (.slice G0 l.length c0) l F W h hf
        have hq := fun W h => rputb_false (.slice G0 l.length c0) l F W h hf
        clear hf
        go_wp2_with (fail)
        refine (hp _ (hv.below hBr)).mono ?_
        rintro e w2 ⟨rfl, hB2⟩
        have hB2' := hBr.trans (hB2.mono hBr.size)
        go_wp2_with (fail)
        refine (hq _ (hv.below hB2')).mono ?_
        rintro e w3 ⟨rfl, hB3⟩
        have hB3' := hB2'.trans (hB3.mono hB2'.size)
        go_wp2_with (fail)
        refine (same_b _ _ [] [] nob nob _ (Rd.nil _ _) (Rd.nil _ _)).mono ?_
        rintro e w4 ⟨rfl, hB4⟩
        rw [decide_eq_true rfl]
        go_wp2
        go_ret
        exact ⟨rfl, hB3'.trans (hB4.mono hB3'.size)⟩
      | true =>
        have hp := fun W h => putb_true (.slice G0 l.length c0) l F W h ho hf
        have hq := fun W h => rputb_true (.slice G0 l.length c0) l F W h ho hf
        have hg := fun u F W h => getb_any u l F W h ho hf
        obtain ⟨hn1, hn4, _, _⟩ := fmB_all hf
        clear hf
        go_wp2_with (fail)
        refine (hp _ (hv.below hBr)).mono ?_
        rintro e w2 ⟨v2, rfl, ho2, hB2⟩
        obtain ⟨A2, c2, rfl⟩ := own_shape ho2
        have hr2 := Rd.of_own ho2
        have hB2' := hBr.trans (hB2.mono hBr.size)
        clear hp ho2
        go_wp2_with (fail)
        refine (hq _ (hv.below hB2')).mono ?_
        rintro e w3 ⟨v3, rfl, ho3, hB3⟩
        obtain ⟨A3, c3, rfl⟩ := own_shape ho3
        have hr3 := Rd.of_own ho3
        have hr2 := hr2.below hB3
        have hB3' := hB2'.trans (hB3.mono hB2'.size)
        clear hq ho3
        go_wp2_with (fail)
        refine (same_b _ _ (bB l) (bB l) _ _ _ hr2 hr3).mono ?_
        rintro e w4 ⟨rfl, hB4⟩
        rw [decide_eq_true rfl]
        have hr2 := hr2.below hB4
        have hB4' := hB3'.trans (hB4.mono hB3'.size)
        clear hr3
        go_wp2_with (fail)
        refine (hg _ _ _ hr2).mono ?_
        rintro e w5 ⟨v5, rfl, hr5, hB5⟩
        have hB5' := hB4'.trans (hB5.mono hB4'.size)
        obtain ⟨A5, c5, rfl⟩ := rqs_shape hr5
        clear hg hr2
        go_wp2_with (fail)
        refine (sameAll_any _ _ l _ _ _ hr5 (hv.below hB5') hn1 hn4).mono ?_
        rintro e w6 ⟨rfl, hB6⟩
        go_wp2
        go_ret
        exact ⟨rfl, hB5'.trans (hB6.mono hB5'.size)⟩
end Go.Proofs.Ythdkfcbfjhdpoaa
