/- Y7: layer 8: the law WireSize. -/
import Derived.Test.YthejallmkcohpaaY6
namespace Go.Proofs.Ythejallmkcohpaa
open Go.RowKit Go.V
set_option maxRecDepth 100000 in
set_option maxHeartbeats 4000000 in
theorem wireSize_law (m : Mg) (ub up : Value) (F1 F2 : Nat → Prop) (w : World) (hm : MgIn m) (hub : Rd w F1 ub (bys m.b)) (hup : Rd w F2 up (tx m.ps)) :
    Calls Try.prog 4 #[m.val ub up] w fun e w' => e = .returned (.bool true) ∧ Below w.heap.size w w' := by
  have hh := hm.h
  have hlong := fun W h1 h2 => long8_any m ub up W hh F1 F2 h1 h2
  have hsize := fun hlo W h1 h2 => size8_any m ub up F1 F2 W hm hlo h1 h2
  have hby := fun hlo W h1 h2 => rby8_any m ub up W hh hlo h1 h2
  obtain ⟨AB, cb, rfl⟩ := hub.shape
  obtain ⟨AP, cpp, rfl, _, _⟩ := hup.slShape
  unfold Mg.val at hlong hsize hby ⊢
  have hmn := len_mg hh (.slice AB m.b.length cb) (.slice AP m.ps.length cpp)
  obtain ⟨l, hl⟩ : ∃ l, l = m.l (.slice AB m.b.length cb) (.slice AP m.ps.length cpp) := ⟨_, rfl⟩
  rw [← hl] at hlong hsize hby hmn ⊢
  have Hmn := hid hmn
  clear hl hmn
  obtain ⟨P, hP⟩ : ∃ P, P = Mg.by m := ⟨_, rfl⟩
  rw [← hP] at hsize hby
  clear hP
  have hvb := Blk.new' w 27 l
  have hB : Below w.heap.size w (w.alloc (.cells l.toArray 27)) := (Below.refl _ _).alloc (Nat.le_refl _) _
  have hub := hub.below hB
  have hup := hup.below hB
  cases hlg : longB m with
  | true =>
    rw [hlg] at hlong
    have Hlong := hid hlong
    clear hlong hsize hby hlg
    go_enter Try.func4, Try.ntmps4
    go_wp2_with (fail)
    refine (wakes8_any _).mono ?_
    rintro e w1 ⟨rfl, hB1⟩
    have hvb := hvb.below hB1
    have hub := hub.below hB1
    have hup := hup.below hB1
    have hB := hB.trans (hB1.mono hB.size)
    obtain ⟨g, hg⟩ : ∃ g, g = w.heap.size := ⟨_, rfl⟩
    rw [← hg] at hvb ⊢
    clear hg hB1
    go_upto_region 3 with (fail)
    have HV : Hid (∀ W, Ch nob w1 W → W.rangeAt g 0 l) := fun W h => (hvb.below h.below).whole
    refine wp_region_noPanic ?_
    refine wp_region_held_drew (S := Ch nob w1) (by kernel_rfl) ((Ch.refl _ _).drew) (fun hHeld => ?_)
    refine wpAnyH_take (i := 0) (oi := ⟨some 5, .load 27 (.tmp 1), _, _, _, none⟩) (v := _) rfl (by kernel_rfl) (by kernel_rfl) (by kernel_rfl) (fun _ _ _ h => h) (yieldsIf_load_mid (by rfl) 27 (.tmp 1) (by rfl) _ (0) (by rfl) _ _ (fun _ hs => HV.out _ hs) Try.underlying27 rfl (by rw [Hmn.out]; exact sizeM)) (by assumption) ?_
    try simp only [Act.put, List.setIfInBounds_toArray, List.set_cons_zero, List.set_cons_succ]
    refine wpAnyH_ready (rs := [1]) (by kernel_rfl) (by simp) ?_
    refine AllReadyH.cons (o := ⟨some 6, _, _, _, _, none⟩) rfl (fun K hK => ?_) AllReadyH.nil
    go_simp
    refine (Hlong.out _ (hub.ext hHeld) (hup.ext hHeld)).mono ?_
    rintro e' w11 ⟨rfl, hB11⟩
    have hC11 := hHeld.belowR hB11
    refine hK.out _ _ (hC11) (fun hHeld => ?_)
    clear hK K
    try simp only [Act.put, List.setIfInBounds_toArray, List.set_cons_zero, List.set_cons_succ]
    refine wpAnyH_take (i := 2) (oi := ⟨some 7, _, _, _, _, none⟩) (v := ?_) rfl (by kernel_rfl) (by kernel_rfl) (by kernel_rfl) (fun _ _ _ h => h) (Or.inl ⟨by rfl, ?_⟩) (by assumption) ?_
    rotate_left
    · intro w hSw; go_simp; try with_reducible rfl
    try simp only [Act.put, List.setIfInBounds_toArray, List.set_cons_zero, List.set_cons_succ]
    refine wpAnyH_take (i := 3) (oi := ⟨some 8, _, _, _, _, some (2, false)⟩) (v := undef) rfl (by kernel_rfl) (by kernel_rfl) (by kernel_rfl) (fun _ _ _ h => h) (Or.inr ⟨by rfl, rfl⟩) (by assumption) ?_
    try simp only [Act.put, List.setIfInBounds_toArray, List.set_cons_zero, List.set_cons_succ]
    refine wpAnyH_take (i := 4) (oi := ⟨some 9, _, _, _, _, some (2, false)⟩) (v := undef) rfl (by kernel_rfl) (by kernel_rfl) (by kernel_rfl) (fun _ _ _ h => h) (Or.inr ⟨by rfl, rfl⟩) (by assumption) ?_
    try simp only [Act.put, List.setIfInBounds_toArray, List.set_cons_zero, List.set_cons_succ]
    refine wpAnyH_take (i := 5) (oi := ⟨some 10, _, _, _, _, some (2, false)⟩) (v := undef) rfl (by kernel_rfl) (by kernel_rfl) (by kernel_rfl) (fun _ _ _ h => h) (Or.inr ⟨by rfl, rfl⟩) (by assumption) ?_
    try simp only [Act.put, List.setIfInBounds_toArray, List.set_cons_zero, List.set_cons_succ]
    refine wpAnyH_take (i := 6) (oi := ⟨some 11, _, _, _, _, some (2, false)⟩) (v := undef) rfl (by kernel_rfl) (by kernel_rfl) (by kernel_rfl) (fun _ _ _ h => h) (Or.inr ⟨by rfl, rfl⟩) (by assumption) ?_
    try simp only [Act.put, List.setIfInBounds_toArray, List.set_cons_zero, List.set_cons_succ]
    refine wpAnyH_take (i := 7) (oi := ⟨some 12, _, _, _, _, some (2, false)⟩) (v := undef) rfl (by kernel_rfl) (by kernel_rfl) (by kernel_rfl) (fun _ _ _ h => h) (Or.inr ⟨by rfl, rfl⟩) (by assumption) ?_
    try simp only [Act.put, List.setIfInBounds_toArray, List.set_cons_zero, List.set_cons_succ]
    refine wpAnyH_take (i := 8) (oi := ⟨some 13, _, _, _, _, some (2, false)⟩) (v := undef) rfl (by kernel_rfl) (by kernel_rfl) (by kernel_rfl) (fun _ _ _ h => h) (Or.inr ⟨by rfl, rfl⟩) (by assumption) ?_
    try simp only [Act.put, List.setIfInBounds_toArray, List.set_cons_zero, List.set_cons_succ]
    refine wpAnyH_take (i := 9) (oi := ⟨some 14, _, _, _, _, none⟩) (v := ?_) rfl (by kernel_rfl) (by kernel_rfl) (by kernel_rfl) (fun _ _ _ h => h) (Or.inl ⟨by rfl, ?_⟩) (by assumption) ?_
    rotate_left
    · intro w hSw; go_simp; try with_reducible rfl
    try simp only [Act.put, List.setIfInBounds_toArray, List.set_cons_zero, List.set_cons_succ]
    refine wpAnyH_take (i := 10) (oi := ⟨some 2, _, _, _, _, none⟩) (v := ?_) rfl (by kernel_rfl) (by kernel_rfl) (by kernel_rfl) (fun _ _ _ h => h) (Or.inl ⟨by rfl, ?_⟩) (by assumption) ?_
    rotate_left
    · intro w hSw; go_simp; try with_reducible rfl
    try simp only [Act.put, List.setIfInBounds_toArray, List.set_cons_zero, List.set_cons_succ]
    refine wpAnyH_done (by kernel_rfl) ?_ _
    refine NoPanic.normal ?_
    go_wp2
    go_ret
    exact ⟨rfl, hB.trans (hC11.below.mono hB.size)⟩
  | false =>
    rw [hlg] at hlong
    have Hlong := hid hlong
    have Hsize := hid (hsize hlg)
    have Hby := hid (hby hlg)
    clear hlong hsize hby hlg
    go_enter Try.func4, Try.ntmps4
    go_wp2_with (fail)
    refine (wakes8_any _).mono ?_
    rintro e w1 ⟨rfl, hB1⟩
    have hvb := hvb.below hB1
    have hub := hub.below hB1
    have hup := hup.below hB1
    have hB := hB.trans (hB1.mono hB.size)
    obtain ⟨g, hg⟩ : ∃ g, g = w.heap.size := ⟨_, rfl⟩
    rw [← hg] at hvb ⊢
    clear hg hB1
    go_upto_region 3 with (fail)
    have HV : Hid (∀ W, Ch nob w1 W → W.rangeAt g 0 l) := fun W h => (hvb.below h.below).whole
    refine wp_region_noPanic ?_
    refine wp_region_held_drew (S := Ch nob w1) (by kernel_rfl) ((Ch.refl _ _).drew) (fun hHeld => ?_)
    refine wpAnyH_take (i := 0) (oi := ⟨some 5, .load 27 (.tmp 1), _, _, _, none⟩) (v := _) rfl (by kernel_rfl) (by kernel_rfl) (by kernel_rfl) (fun _ _ _ h => h) (yieldsIf_load_mid (by rfl) 27 (.tmp 1) (by rfl) _ (0) (by rfl) _ _ (fun _ hs => HV.out _ hs) Try.underlying27 rfl (by rw [Hmn.out]; exact sizeM)) (by assumption) ?_
    try simp only [Act.put, List.setIfInBounds_toArray, List.set_cons_zero, List.set_cons_succ]
    refine wpAnyH_ready (rs := [1]) (by kernel_rfl) (by simp) ?_
    refine AllReadyH.cons (o := ⟨some 6, _, _, _, _, none⟩) rfl (fun K hK => ?_) AllReadyH.nil
    go_simp
    refine (Hlong.out _ (hub.ext hHeld) (hup.ext hHeld)).mono ?_
    rintro e' w11 ⟨rfl, hB11⟩
    have hC11 := hHeld.belowR hB11
    refine hK.out _ _ (hC11) (fun hHeld => ?_)
    clear hK K
    try simp only [Act.put, List.setIfInBounds_toArray, List.set_cons_zero, List.set_cons_succ]
    refine wpAnyH_take (i := 2) (oi := ⟨some 7, _, _, _, _, none⟩) (v := ?_) rfl (by kernel_rfl) (by kernel_rfl) (by kernel_rfl) (fun _ _ _ h => h) (Or.inl ⟨by rfl, ?_⟩) (by assumption) ?_
    rotate_left
    · intro w hSw; go_simp; try with_reducible rfl
    try simp only [Act.put, List.setIfInBounds_toArray, List.set_cons_zero, List.set_cons_succ]
    refine wpAnyH_take (i := 3) (oi := ⟨some 8, .load 27 (.tmp 1), _, _, _, some (2, false)⟩) (v := _) rfl (by kernel_rfl) (by kernel_rfl) (by kernel_rfl) (fun _ _ _ h => h) (yieldsIf_load_mid (by rfl) 27 (.tmp 1) (by rfl) _ (0) (by rfl) _ _ (fun _ hs => HV.out _ hs) Try.underlying27 rfl (by rw [Hmn.out]; exact sizeM)) (by assumption) ?_
    try simp only [Act.put, List.setIfInBounds_toArray, List.set_cons_zero, List.set_cons_succ]
    refine wpAnyH_take (i := 5) (oi := ⟨some 10, .load 27 (.tmp 1), _, _, _, some (2, false)⟩) (v := _) rfl (by kernel_rfl) (by kernel_rfl) (by kernel_rfl) (fun _ _ _ h => h) (yieldsIf_load_mid (by rfl) 27 (.tmp 1) (by rfl) _ (0) (by rfl) _ _ (fun _ hs => HV.out _ hs) Try.underlying27 rfl (by rw [Hmn.out]; exact sizeM)) (by assumption) ?_
    try simp only [Act.put, List.setIfInBounds_toArray, List.set_cons_zero, List.set_cons_succ]
    refine wpAnyH_ready (rs := [4]) (by kernel_rfl) (by simp) ?_
    refine AllReadyH.cons (o := ⟨some 9, _, _, _, _, some (2, false)⟩) rfl (fun K hK => ?_) AllReadyH.nil
    go_simp
    refine (Hsize.out _ (hub.ext hHeld) (hup.ext hHeld)).mono ?_
    rintro e' w12 ⟨rfl, hB12⟩
    have hC12 := hC11.belowR hB12
    refine hK.out _ _ (hC12) (fun hHeld => ?_)
    clear hK K
    try simp only [Act.put, List.setIfInBounds_toArray, List.set_cons_zero, List.set_cons_succ]
    refine wpAnyH_ready (rs := [6]) (by kernel_rfl) (by simp) ?_
    refine AllReadyH.cons (o := ⟨some 11, _, _, _, _, some (2, false)⟩) rfl (fun K hK => ?_) AllReadyH.nil
    go_simp
    refine (Hby.out _ ((hub.ext hHeld).weak (fun b hb _ => hb)) ((hup.ext hHeld).weak (fun b hb _ => hb))).mono ?_
    rintro e' w13 ⟨v13, rfl, ho13, hB13⟩
    obtain ⟨A13, c13, rfl⟩ := own_shape ho13
    have hC13 := hC12.belowR hB13
    refine hK.out _ _ (hC13) (fun hHeld => ?_)
    clear hK K
    try simp only [Act.put, List.setIfInBounds_toArray, List.set_cons_zero, List.set_cons_succ]
    refine wpAnyH_take (i := 7) (oi := ⟨some 12, _, _, _, _, some (2, false)⟩) (v := ?_) rfl (by kernel_rfl) (by kernel_rfl) (by kernel_rfl) (fun _ _ _ h => h) (Or.inl ⟨by rfl, ?_⟩) (by assumption) ?_
    rotate_left
    · intro w hSw; go_simp; try with_reducible rfl
    try simp only [Act.put, List.setIfInBounds_toArray, List.set_cons_zero, List.set_cons_succ]
    refine wpAnyH_take (i := 8) (oi := ⟨some 13, _, _, _, _, some (2, false)⟩) (v := ?_) rfl (by kernel_rfl) (by kernel_rfl) (by kernel_rfl) (fun _ _ _ h => h) (Or.inl ⟨by rfl, ?_⟩) (by assumption) ?_
    rotate_left
    · intro w hSw; go_simp; try with_reducible rfl
    try simp only [Act.put, List.setIfInBounds_toArray, List.set_cons_zero, List.set_cons_succ]
    refine wpAnyH_take (i := 9) (oi := ⟨some 14, _, _, _, _, none⟩) (v := ?_) rfl (by kernel_rfl) (by kernel_rfl) (by kernel_rfl) (fun _ _ _ h => h) (Or.inl ⟨by rfl, ?_⟩) (by assumption) ?_
    rotate_left
    · intro w hSw; go_simp; try with_reducible rfl
    try simp only [Act.put, List.setIfInBounds_toArray, List.set_cons_zero, List.set_cons_succ]
    refine wpAnyH_take (i := 10) (oi := ⟨some 2, _, _, _, _, none⟩) (v := ?_) rfl (by kernel_rfl) (by kernel_rfl) (by kernel_rfl) (fun _ _ _ h => h) (Or.inl ⟨by rfl, ?_⟩) (by assumption) ?_
    rotate_left
    · intro w hSw; go_simp; try with_reducible rfl
    try simp only [Act.put, List.setIfInBounds_toArray, List.set_cons_zero, List.set_cons_succ]
    refine wpAnyH_done (by kernel_rfl) ?_ _
    refine NoPanic.normal ?_
    go_wp2
    go_ret
    exact ⟨rfl, hB.trans (hC13.below.mono hB.size)⟩
end Go.Proofs.Ythejallmkcohpaa
