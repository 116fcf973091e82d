/- C4: layer 17: CertsProve. -/
import Derived.Test.YtddeeigdcolegaaDoorC3
namespace Go.Proofs.YtddeeigdcolegaaDoor
open Go.RowKit Go.V
set_option maxRecDepth 100000 in
set_option maxHeartbeats 16000000 in
theorem certsProve_law (V : Vc) (m : Mg) (P : List (List UInt8)) (ub up pv : Value) (F1 F2 H : Nat → Prop) (w : World) (hKS : KS w) (hV : in64w V.n ∧ V.m < 65536) (hm : MgIn m) (hub : Rd w F1 ub (bys m.b)) (hup : Rd w F2 up (tx m.ps)) (hp : Rd w H pv (tx P)) :
    Calls Tryd.prog 4 #[.agg (aK V m ub up).toArray, pv] w fun e w' => e = .returned (.bool true) ∧ Below w.heap.size w w' := by
  obtain ⟨n, M⟩ := V
  obtain ⟨A, c, rfl, hcA, hcm⟩ := hp.slShape
  have hb2 := Blk.new' w 32 (aK ⟨n, M⟩ m ub up)
  have hB : Below w.heap.size w (w.alloc (.cells (aK ⟨n, M⟩ m ub up).toArray 32)) := (Below.refl _ _).alloc (Nat.le_refl _) _
  have Hmv : Hid (∀ j v, ([.int .i64 n, .int .u16 (M : Int)] : List Value)[j]? = some v → (aK ⟨n, M⟩ m ub up)[0 + j]? = some v) := fun j v h => ak_v (V := ⟨n, M⟩) h
  have Hmm : Hid (∀ j v, (m.l ub up)[j]? = some v → (aK ⟨n, M⟩ m ub up)[2 + j]? = some v) := fun j v h => ak_m h
  have hlm : (m.l ub up).length = 39 := len_mg hm.h _ _
  have Hlm := hid hlm
  have Hlo := hid (long17_any P (.slice A P.length c) H)
  obtain ⟨la, hla⟩ : ∃ l, l = aK ⟨n, M⟩ m ub up := ⟨_, rfl⟩
  rw [← hla] at hb2 hB Hmv Hmm ⊢
  clear hla
  go_enter Tryd.func4, Tryd.ntmps4
  go_wp2_with (fail)
  obtain ⟨w0, hw0⟩ : ∃ x, x = w.alloc (.cells la.toArray 32) := ⟨_, rfl⟩
  rw [← hw0] at hb2 hB ⊢
  obtain ⟨g2, hg2⟩ : ∃ g, g = w.heap.size := ⟨_, rfl⟩
  rw [← hg2] at hb2 ⊢
  clear hw0 hg2
  refine (wakes17_any _ (hKS.below hB)).mono ?_
  rintro e w1 ⟨rfl, hB1⟩
  have hb2 := hb2.below hB1
  have hB := hB.trans (hB1.mono hB.size)
  clear hB1
  go_wp2_with (fail)
  refine (Hlo.out _ (hp.below hB)).mono ?_
  rintro e w2 ⟨rfl, hB2⟩
  have hb2 := hb2.below hB2
  have hB := hB.trans (hB2.mono hB.size)
  clear hB2 Hlo
  cases hL : longC P with
  | true =>
    clear hL
    go_wp2
    go_ret
    exact ⟨rfl, hB⟩
  | false =>
    have hbd := longC_bd hL
    have hPs : PsSm P := ⟨by omega, fun X hX => by have := hbd.2 X hX; omega⟩
    have HPs := hid hPs
    have hP24 := hbd.1
    have HPl : Hid (∀ X ∈ P, X.length ≤ 1000000) := fun X hX => by have := hbd.2 X hX; omega
    clear hL hbd hPs
    go_wp2_with (fail)
    refine (table17_any _).mono ?_
    rintro e w3 ⟨uk, rfl, hk, hB3⟩
    have hb2 := hb2.below hB3
    have hB := hB.trans (hB3.mono hB.size)
    obtain ⟨Ak, ck, rfl, _, _⟩ := hk.slShape
    go_wp2_with (refine wp_newst 37 5 (.tmp 14) rfl rfl rfl rfl rfl rfl zeroKs17 (l := [.slice Ak ks17.length ck, .slice none 0 0]) rfl rfl sizeKs17 (by intro v hv; simp at hv; rcases hv with rfl | rfl <;> rfl) (by simp) ?_; intro w4 b5 hB4 hs4; refine wp_stop ?_)
    have hb2 := hb2.below hB4
    have hk := hk.below hB4
    have hB := hB.trans (hB4.mono hB.size)
    obtain ⟨g5, hg5⟩ : ∃ g, g = w3.heap.size := ⟨_, rfl⟩
    rw [← hg5] at b5 ⊢
    clear hB3 hB4 hs4 hg5
    refine wp_go ?_
    have Hw3 : Hid (∀ Z, Ch nob w4 Z → Z.cell? ⟨g2, 5, none⟩ = some (.int .i64 m.r)) := fun Z h => (hb2.below h.below).cellAt 5 _ (Hmm.out 3 _ rfl)
    have Hw4 : Hid (∀ Z, Ch nob w4 Z → Z.cell? ⟨g2, 6, none⟩ = some (.int .i64 m.s)) := fun Z h => (hb2.below h.below).cellAt 6 _ (Hmm.out 4 _ rfl)
    have XH : Hid (∀ Z, Ch nob w4 Z → Z.rangeAt g2 7 (bvs m.h)) := fun Z h => (hb2.below h.below).range 7 _ (fun j v hv => by
      have := Hmm.out (5 + j) v (mg_hash hm.h _ _ j v hv)
      rw [← Nat.add_assoc] at this
      exact this)
    have XK : Hid (∀ Z, Ch nob w4 Z → Z.rangeAt g5 0 [.slice Ak ks17.length ck, .slice none 0 0]) := fun Z h => (b5.below h.below).whole
    have XV : Hid (∀ Z, Ch nob w4 Z → Z.rangeAt g2 0 [.int .i64 n, .int .u16 (M : Int)]) := fun Z h => (hb2.below h.below).range 0 _ Hmv.out
    have Lh : Hid ((bvs m.h).length = 32) := hid (by rw [len_bvs]; exact hm.h)
    have hK4 := hKS.below hB
    have hp4 := hp.below hB
    have hub4 := hub.below hB
    have hup4 := hup.below hB
    have Hcd := hid (fun Y h1 h2 h3 => cdec17_any ks17 ⟨n, M⟩ P m.s m.h (.slice Ak ks17.length ck) (.slice none 0 0) (.slice A P.length c) (fun b => w2.heap.size ≤ b) H Y h1 ks17_sm h2 h3 HPs.out hV hm.s hm.h)
    have Hrd := hid (fun Y h2 h3 => rdec17_any ks17 ⟨n, M⟩ P m.s m.h (.slice Ak ks17.length ck) (.slice none 0 0) (.slice A P.length c) (fun b => w2.heap.size ≤ b) H Y ks17_sm h2 h3 (by omega) HPl.out hV.2 hm.h)
    have Hcw := hid (fun Y h1 h2 h3 => cwri17_any ks17 ⟨n, M⟩ P m.r m.s m.h (.slice Ak ks17.length ck) (.slice none 0 0) (.slice A P.length c) (fun b => w2.heap.size ≤ b) H Y h1 ks17_sm h2 h3 HPs.out hV ⟨hm.r, hm.s⟩ hm.h)
    have Hrw := hid (fun Y h2 h3 => rwri17_any ks17 ⟨n, M⟩ P m.r m.s m.h (.slice Ak ks17.length ck) (.slice none 0 0) (.slice A P.length c) (fun b => w2.heap.size ≤ b) H Y ks17_sm h2 h3 (by omega) HPl.out hV.2 hm.h)
    unfold vw at Hcd Hrd Hcw Hrw
    obtain ⟨⟨z1, z2⟩, hZ⟩ : ∃ Z, Z = decC ks17 ⟨n, M⟩ m.s m.h P := ⟨_, rfl⟩
    obtain ⟨u, hu⟩ : ∃ u, u = wriC ks17 ⟨n, M⟩ m.r m.s m.h P := ⟨_, rfl⟩
    rw [← hZ] at Hcd Hrd
    rw [← hu] at Hcw Hrw
    obtain ⟨lh, hlh⟩ : ∃ l, l = bvs m.h := ⟨_, rfl⟩
    rw [← hlh] at XH Lh Hcd Hrd Hcw Hrw
    clear hZ hu hlh hlm
    have c6 := Hw4.out _ (Ch.refl _ _)
    go_wp2_with (first | refine wp_ld 37 (.tmp 5) rfl rfl rfl (XK.out _ (Ch.refl _ _)) Tryd.underlying37 rfl sizeKs17 ?_ | refine wp_ld 24 (.tmp 17) rfl rfl rfl (XV.out _ (Ch.refl _ _)) Tryd.underlying24 rfl sizeVw17 ?_ | refine wp_ld 26 (.tmp 23) rfl rfl rfl (XH.out _ (Ch.refl _ _)) Tryd.underlying26 rfl (by rw [Lh.out]; exact size25) ?_)
    refine (Hcd.out _ hK4 hk hp4).mono ?_
    rintro e x1 ⟨rfl, hD1⟩
    have c6 := Hw4.out _ (Ch.of_below hD1)
    have hk1 := hk.below hD1
    have hp1 := hp4.below hD1
    have hC1 := Ch.of_below hD1
    go_wp2_with (first | refine wp_ld 37 (.tmp 5) rfl rfl rfl (XK.out _ hC1) Tryd.underlying37 rfl sizeKs17 ?_ | refine wp_ld 24 (.tmp 31) rfl rfl rfl (XV.out _ hC1) Tryd.underlying24 rfl sizeVw17 ?_ | refine wp_ld 26 (.tmp 37) rfl rfl rfl (XH.out _ hC1) Tryd.underlying26 rfl (by rw [Lh.out]; exact size25) ?_)
    refine (Hrd.out _ hk1 hp1).mono ?_
    rintro e x2 ⟨rfl, hD2⟩
    have hD := hD1.trans (hD2.mono hD1.size)
    have hBx := hB.trans (hD.mono hB.size)
    have hCx : Ch nob w4 x2 := Ch.of_below hD
    clear hk1 hp1 hC1 hD1 hD2 c6 Hcd Hrd
    go_upto_region 8 with (fail)
    refine wp_region_noPanic ?_
    refine wp_region_held_drew (S := Ch nob x2) (by kernel_rfl) ((Ch.refl _ _).drew) (fun hHeld => ?_)
    refine wpAnyH_take (i := 0) (oi := ⟨some 43, _, _, _, _, none⟩) (v := ?_) rfl (by kernel_rfl) (by kernel_rfl) (by kernel_rfl) (fun _ _ _ h => h) (Or.inl ⟨by rfl, ?_⟩) (by assumption) ?_
    rotate_left
    · intro w hSw; go_simp; try with_reducible rfl
    try simp only [Act.put, List.setIfInBounds_toArray, List.set_cons_zero, List.set_cons_succ]
    refine wpAnyH_take (i := 1) (oi := ⟨some 44, _, _, _, _, none⟩) (v := ?_) rfl (by kernel_rfl) (by kernel_rfl) (by kernel_rfl) (fun _ _ _ h => h) (Or.inl ⟨by rfl, ?_⟩) (by assumption) ?_
    rotate_left
    · intro w hSw; go_simp; try with_reducible rfl
    try simp only [Act.put, List.setIfInBounds_toArray, List.set_cons_zero, List.set_cons_succ]
    refine wpAnyH_take (i := 2) (oi := ⟨some 45, _, _, _, _, none⟩) (v := ?_) rfl (by kernel_rfl) (by kernel_rfl) (by kernel_rfl) (fun _ _ _ h => h) (Or.inl ⟨by rfl, ?_⟩) (by assumption) ?_
    rotate_left
    · intro w hSw; go_simp; try with_reducible rfl
    try simp only [Act.put, List.setIfInBounds_toArray, List.set_cons_zero, List.set_cons_succ]
    refine wpAnyH_take (i := 3) (oi := ⟨some 46, _, _, _, _, none⟩) (v := ?_) rfl (by kernel_rfl) (by kernel_rfl) (by kernel_rfl) (fun _ _ _ h => h) (Or.inl ⟨by rfl, ?_⟩) (by assumption) ?_
    rotate_left
    · intro w hSw; go_simp; try with_reducible rfl
    try simp only [Act.put, List.setIfInBounds_toArray, List.set_cons_zero, List.set_cons_succ]
    refine wpAnyH_take (i := 4) (oi := ⟨some 47, _, _, _, _, some (3, true)⟩) (v := ?_) rfl (by kernel_rfl) (by kernel_rfl) (by kernel_rfl) (fun _ _ _ h => h) (Or.inl ⟨by rfl, ?_⟩) (by assumption) ?_
    rotate_left
    · intro w hSw; go_simp; try with_reducible rfl
    try simp only [Act.put, List.setIfInBounds_toArray, List.set_cons_zero, List.set_cons_succ]
    refine wpAnyH_take (i := 5) (oi := ⟨some 48, _, _, _, _, some (3, true)⟩) (v := ?_) rfl (by kernel_rfl) (by kernel_rfl) (by kernel_rfl) (fun _ _ _ h => h) (Or.inl ⟨by rfl, ?_⟩) (by assumption) ?_
    rotate_left
    · intro w hSw; go_simp; try with_reducible rfl
    try simp only [Act.put, List.setIfInBounds_toArray, List.set_cons_zero, List.set_cons_succ]
    refine wpAnyH_take (i := 6) (oi := ⟨some 49, _, _, _, _, some (3, true)⟩) (v := ?_) rfl (by kernel_rfl) (by kernel_rfl) (by kernel_rfl) (fun _ _ _ h => h) (Or.inl ⟨by rfl, ?_⟩) (by assumption) ?_
    rotate_left
    · intro w hSw; go_simp; try with_reducible rfl
    try simp only [Act.put, List.setIfInBounds_toArray, List.set_cons_zero, List.set_cons_succ]
    refine wpAnyH_take (i := 7) (oi := ⟨some 50, _, _, _, _, none⟩) (v := ?_) rfl (by kernel_rfl) (by kernel_rfl) (by kernel_rfl) (fun _ _ _ h => h) (Or.inl ⟨by rfl, ?_⟩) (by assumption) ?_
    rotate_left
    · intro w hSw; go_simp; try with_reducible rfl
    try simp only [Act.put, List.setIfInBounds_toArray, List.set_cons_zero, List.set_cons_succ]
    refine wpAnyH_take (i := 8) (oi := ⟨some 51, _, _, _, _, none⟩) (v := ?_) rfl (by kernel_rfl) (by kernel_rfl) (by kernel_rfl) (fun _ _ _ h => h) (Or.inl ⟨by rfl, ?_⟩) (by assumption) ?_
    rotate_left
    · intro w hSw; go_simp; try with_reducible rfl
    try simp only [Act.put, List.setIfInBounds_toArray, List.set_cons_zero, List.set_cons_succ]
    refine wpAnyH_take (i := 9) (oi := ⟨some 52, .load 37 (.tmp 5), _, _, _, some (8, true)⟩) (v := _) rfl (by kernel_rfl) (by kernel_rfl) (by kernel_rfl) (fun _ _ _ h => h) (yieldsIf_load_mid (by rfl) 37 (.tmp 5) (by rfl) _ (0) (by rfl) _ _ (fun _ hs => XK.out _ (hCx.trans hs)) Tryd.underlying37 rfl (sizeKs17)) (by assumption) ?_
    try simp only [Act.put, List.setIfInBounds_toArray, List.set_cons_zero, List.set_cons_succ]
    refine wpAnyH_take (i := 10) (oi := ⟨some 53, _, _, _, _, some (8, true)⟩) (v := ?_) rfl (by kernel_rfl) (by kernel_rfl) (by kernel_rfl) (fun _ _ _ h => h) (Or.inl ⟨by rfl, ?_⟩) (by assumption) ?_
    rotate_left
    · intro w hSw; go_simp; try with_reducible rfl
    try simp only [Act.put, List.setIfInBounds_toArray, List.set_cons_zero, List.set_cons_succ]
    refine wpAnyH_take (i := 11) (oi := ⟨some 54, .load 24 (.tmp 53), _, _, _, some (8, true)⟩) (v := _) rfl (by kernel_rfl) (by kernel_rfl) (by kernel_rfl) (fun _ _ _ h => h) (yieldsIf_load_mid (by rfl) 24 (.tmp 53) (by rfl) _ (0) (by rfl) _ _ (fun _ hs => XV.out _ (hCx.trans hs)) Tryd.underlying24 rfl (sizeVw17)) (by assumption) ?_
    try simp only [Act.put, List.setIfInBounds_toArray, List.set_cons_zero, List.set_cons_succ]
    refine wpAnyH_take (i := 12) (oi := ⟨some 55, _, _, _, _, some (8, true)⟩) (v := ?_) rfl (by kernel_rfl) (by kernel_rfl) (by kernel_rfl) (fun _ _ _ h => h) (Or.inl ⟨by rfl, ?_⟩) (by assumption) ?_
    rotate_left
    · intro w hSw; go_simp; try with_reducible rfl
    try simp only [Act.put, List.setIfInBounds_toArray, List.set_cons_zero, List.set_cons_succ]
    refine wpAnyH_take (i := 13) (oi := ⟨some 56, _, _, _, _, some (8, true)⟩) (v := ?_) rfl (by kernel_rfl) (by kernel_rfl) (by kernel_rfl) (fun _ _ _ h => h) (Or.inl ⟨by rfl, ?_⟩) (by assumption) ?_
    rotate_left
    · intro w hSw; go_simp; try with_reducible rfl
    try simp only [Act.put, List.setIfInBounds_toArray, List.set_cons_zero, List.set_cons_succ]
    refine wpAnyH_take (i := 14) (oi := ⟨some 57, _, _, _, _, some (8, true)⟩) (v := ?_) rfl (by kernel_rfl) (by kernel_rfl) (by kernel_rfl) (fun _ _ _ h => h) (Or.inl ⟨by rfl, ?_⟩) (by assumption) ?_
    rotate_left
    · intro w hSw; have hcw := Hw3.out w (hCx.trans hSw); go_simp; try with_reducible rfl
    try simp only [Act.put, List.setIfInBounds_toArray, List.set_cons_zero, List.set_cons_succ]
    refine wpAnyH_take (i := 15) (oi := ⟨some 58, _, _, _, _, some (8, true)⟩) (v := ?_) rfl (by kernel_rfl) (by kernel_rfl) (by kernel_rfl) (fun _ _ _ h => h) (Or.inl ⟨by rfl, ?_⟩) (by assumption) ?_
    rotate_left
    · intro w hSw; go_simp; try with_reducible rfl
    try simp only [Act.put, List.setIfInBounds_toArray, List.set_cons_zero, List.set_cons_succ]
    refine wpAnyH_take (i := 16) (oi := ⟨some 59, _, _, _, _, some (8, true)⟩) (v := ?_) rfl (by kernel_rfl) (by kernel_rfl) (by kernel_rfl) (fun _ _ _ h => h) (Or.inl ⟨by rfl, ?_⟩) (by assumption) ?_
    rotate_left
    · intro w hSw; go_simp; try with_reducible rfl
    try simp only [Act.put, List.setIfInBounds_toArray, List.set_cons_zero, List.set_cons_succ]
    refine wpAnyH_take (i := 17) (oi := ⟨some 60, _, _, _, _, some (8, true)⟩) (v := ?_) rfl (by kernel_rfl) (by kernel_rfl) (by kernel_rfl) (fun _ _ _ h => h) (Or.inl ⟨by rfl, ?_⟩) (by assumption) ?_
    rotate_left
    · intro w hSw; have hcw := Hw4.out w (hCx.trans hSw); go_simp; try with_reducible rfl
    try simp only [Act.put, List.setIfInBounds_toArray, List.set_cons_zero, List.set_cons_succ]
    refine wpAnyH_take (i := 18) (oi := ⟨some 61, _, _, _, _, some (8, true)⟩) (v := ?_) rfl (by kernel_rfl) (by kernel_rfl) (by kernel_rfl) (fun _ _ _ h => h) (Or.inl ⟨by rfl, ?_⟩) (by assumption) ?_
    rotate_left
    · intro w hSw; go_simp; try with_reducible rfl
    try simp only [Act.put, List.setIfInBounds_toArray, List.set_cons_zero, List.set_cons_succ]
    refine wpAnyH_take (i := 19) (oi := ⟨some 62, _, _, _, _, some (8, true)⟩) (v := ?_) rfl (by kernel_rfl) (by kernel_rfl) (by kernel_rfl) (fun _ _ _ h => h) (Or.inl ⟨by rfl, ?_⟩) (by assumption) ?_
    rotate_left
    · intro w hSw; go_simp; try with_reducible rfl
    try simp only [Act.put, List.setIfInBounds_toArray, List.set_cons_zero, List.set_cons_succ]
    refine wpAnyH_take (i := 20) (oi := ⟨some 63, .load 26 (.tmp 62), _, _, _, some (8, true)⟩) (v := _) rfl (by kernel_rfl) (by kernel_rfl) (by kernel_rfl) (fun _ _ _ h => h) (yieldsIf_load_mid (by rfl) 26 (.tmp 62) (by rfl) _ (7) (by rfl) _ _ (fun _ hs => XH.out _ (hCx.trans hs)) Tryd.underlying26 rfl (by rw [Lh.out]; exact size25)) (by assumption) ?_
    try simp only [Act.put, List.setIfInBounds_toArray, List.set_cons_zero, List.set_cons_succ]
    refine wpAnyH_take (i := 21) (oi := ⟨some 64, _, _, _, _, some (8, true)⟩) (v := ?_) rfl (by kernel_rfl) (by kernel_rfl) (by kernel_rfl) (fun _ _ _ h => h) (Or.inl ⟨by rfl, ?_⟩) (by assumption) ?_
    rotate_left
    · intro w hSw; go_simp; try with_reducible rfl
    try simp only [Act.put, List.setIfInBounds_toArray, List.set_cons_zero, List.set_cons_succ]
    refine wpAnyH_take (i := 23) (oi := ⟨some 66, .load 37 (.tmp 5), _, _, _, some (8, true)⟩) (v := _) rfl (by kernel_rfl) (by kernel_rfl) (by kernel_rfl) (fun _ _ _ h => h) (yieldsIf_load_mid (by rfl) 37 (.tmp 5) (by rfl) _ (0) (by rfl) _ _ (fun _ hs => XK.out _ (hCx.trans hs)) Tryd.underlying37 rfl (sizeKs17)) (by assumption) ?_
    try simp only [Act.put, List.setIfInBounds_toArray, List.set_cons_zero, List.set_cons_succ]
    refine wpAnyH_take (i := 24) (oi := ⟨some 67, _, _, _, _, some (8, true)⟩) (v := ?_) rfl (by kernel_rfl) (by kernel_rfl) (by kernel_rfl) (fun _ _ _ h => h) (Or.inl ⟨by rfl, ?_⟩) (by assumption) ?_
    rotate_left
    · intro w hSw; go_simp; try with_reducible rfl
    try simp only [Act.put, List.setIfInBounds_toArray, List.set_cons_zero, List.set_cons_succ]
    refine wpAnyH_take (i := 25) (oi := ⟨some 68, .load 24 (.tmp 67), _, _, _, some (8, true)⟩) (v := _) rfl (by kernel_rfl) (by kernel_rfl) (by kernel_rfl) (fun _ _ _ h => h) (yieldsIf_load_mid (by rfl) 24 (.tmp 67) (by rfl) _ (0) (by rfl) _ _ (fun _ hs => XV.out _ (hCx.trans hs)) Tryd.underlying24 rfl (sizeVw17)) (by assumption) ?_
    try simp only [Act.put, List.setIfInBounds_toArray, List.set_cons_zero, List.set_cons_succ]
    refine wpAnyH_take (i := 26) (oi := ⟨some 69, _, _, _, _, some (8, true)⟩) (v := ?_) rfl (by kernel_rfl) (by kernel_rfl) (by kernel_rfl) (fun _ _ _ h => h) (Or.inl ⟨by rfl, ?_⟩) (by assumption) ?_
    rotate_left
    · intro w hSw; go_simp; try with_reducible rfl
    try simp only [Act.put, List.setIfInBounds_toArray, List.set_cons_zero, List.set_cons_succ]
    refine wpAnyH_take (i := 27) (oi := ⟨some 70, _, _, _, _, some (8, true)⟩) (v := ?_) rfl (by kernel_rfl) (by kernel_rfl) (by kernel_rfl) (fun _ _ _ h => h) (Or.inl ⟨by rfl, ?_⟩) (by assumption) ?_
    rotate_left
    · intro w hSw; go_simp; try with_reducible rfl
    try simp only [Act.put, List.setIfInBounds_toArray, List.set_cons_zero, List.set_cons_succ]
    refine wpAnyH_take (i := 28) (oi := ⟨some 71, _, _, _, _, some (8, true)⟩) (v := ?_) rfl (by kernel_rfl) (by kernel_rfl) (by kernel_rfl) (fun _ _ _ h => h) (Or.inl ⟨by rfl, ?_⟩) (by assumption) ?_
    rotate_left
    · intro w hSw; have hcw := Hw3.out w (hCx.trans hSw); go_simp; try with_reducible rfl
    try simp only [Act.put, List.setIfInBounds_toArray, List.set_cons_zero, List.set_cons_succ]
    refine wpAnyH_take (i := 29) (oi := ⟨some 72, _, _, _, _, some (8, true)⟩) (v := ?_) rfl (by kernel_rfl) (by kernel_rfl) (by kernel_rfl) (fun _ _ _ h => h) (Or.inl ⟨by rfl, ?_⟩) (by assumption) ?_
    rotate_left
    · intro w hSw; go_simp; try with_reducible rfl
    try simp only [Act.put, List.setIfInBounds_toArray, List.set_cons_zero, List.set_cons_succ]
    refine wpAnyH_take (i := 30) (oi := ⟨some 73, _, _, _, _, some (8, true)⟩) (v := ?_) rfl (by kernel_rfl) (by kernel_rfl) (by kernel_rfl) (fun _ _ _ h => h) (Or.inl ⟨by rfl, ?_⟩) (by assumption) ?_
    rotate_left
    · intro w hSw; go_simp; try with_reducible rfl
    try simp only [Act.put, List.setIfInBounds_toArray, List.set_cons_zero, List.set_cons_succ]
    refine wpAnyH_take (i := 31) (oi := ⟨some 74, _, _, _, _, some (8, true)⟩) (v := ?_) rfl (by kernel_rfl) (by kernel_rfl) (by kernel_rfl) (fun _ _ _ h => h) (Or.inl ⟨by rfl, ?_⟩) (by assumption) ?_
    rotate_left
    · intro w hSw; have hcw := Hw4.out w (hCx.trans hSw); go_simp; try with_reducible rfl
    try simp only [Act.put, List.setIfInBounds_toArray, List.set_cons_zero, List.set_cons_succ]
    refine wpAnyH_take (i := 32) (oi := ⟨some 75, _, _, _, _, some (8, true)⟩) (v := ?_) rfl (by kernel_rfl) (by kernel_rfl) (by kernel_rfl) (fun _ _ _ h => h) (Or.inl ⟨by rfl, ?_⟩) (by assumption) ?_
    rotate_left
    · intro w hSw; go_simp; try with_reducible rfl
    try simp only [Act.put, List.setIfInBounds_toArray, List.set_cons_zero, List.set_cons_succ]
    refine wpAnyH_take (i := 33) (oi := ⟨some 76, _, _, _, _, some (8, true)⟩) (v := ?_) rfl (by kernel_rfl) (by kernel_rfl) (by kernel_rfl) (fun _ _ _ h => h) (Or.inl ⟨by rfl, ?_⟩) (by assumption) ?_
    rotate_left
    · intro w hSw; go_simp; try with_reducible rfl
    try simp only [Act.put, List.setIfInBounds_toArray, List.set_cons_zero, List.set_cons_succ]
    refine wpAnyH_take (i := 34) (oi := ⟨some 77, .load 26 (.tmp 76), _, _, _, some (8, true)⟩) (v := _) rfl (by kernel_rfl) (by kernel_rfl) (by kernel_rfl) (fun _ _ _ h => h) (yieldsIf_load_mid (by rfl) 26 (.tmp 76) (by rfl) _ (7) (by rfl) _ _ (fun _ hs => XH.out _ (hCx.trans hs)) Tryd.underlying26 rfl (by rw [Lh.out]; exact size25)) (by assumption) ?_
    try simp only [Act.put, List.setIfInBounds_toArray, List.set_cons_zero, List.set_cons_succ]
    refine wpAnyH_take (i := 35) (oi := ⟨some 78, _, _, _, _, some (8, true)⟩) (v := ?_) rfl (by kernel_rfl) (by kernel_rfl) (by kernel_rfl) (fun _ _ _ h => h) (Or.inl ⟨by rfl, ?_⟩) (by assumption) ?_
    rotate_left
    · intro w hSw; go_simp; try with_reducible rfl
    try simp only [Act.put, List.setIfInBounds_toArray, List.set_cons_zero, List.set_cons_succ]
    refine wpAnyH_ready (rs := [22]) (by kernel_rfl) (by simp) ?_
    refine AllReadyH.cons (o := ⟨some 65, _, _, _, _, some (8, true)⟩) rfl (fun K hK => ?_) AllReadyH.nil
    go_simp
    refine (Hcw.out _ ((hK4.below hD).below hHeld.below) ((hk.below hD).below hHeld.below) ((hp4.below hD).below hHeld.below)).mono ?_
    rintro e' y1 ⟨rfl, hE1⟩
    refine hK.out _ _ (hHeld.belowR hE1) (fun hHeld => ?_)
    clear hK K
    try simp only [Act.put, List.setIfInBounds_toArray, List.set_cons_zero, List.set_cons_succ]
    refine wpAnyH_ready (rs := [36]) (by kernel_rfl) (by simp) ?_
    refine AllReadyH.cons (o := ⟨some 79, _, _, _, _, some (8, true)⟩) rfl (fun K hK => ?_) AllReadyH.nil
    go_simp
    refine (Hrw.out _ ((hk.below hD).below hHeld.below) ((hp4.below hD).below hHeld.below)).mono ?_
    rintro e' y2 ⟨rfl, hE2⟩
    refine hK.out _ _ (hHeld.belowR hE2) (fun hHeld => ?_)
    clear hK K
    try simp only [Act.put, List.setIfInBounds_toArray, List.set_cons_zero, List.set_cons_succ]
    refine wpAnyH_take (i := 37) (oi := ⟨some 80, _, _, _, _, some (8, true)⟩) (v := ?_) rfl (by kernel_rfl) (by kernel_rfl) (by kernel_rfl) (fun _ _ _ h => h) (Or.inl ⟨by rfl, ?_⟩) (by assumption) ?_
    rotate_left
    · intro w hSw; go_simp; try with_reducible rfl
    try simp only [Act.put, List.setIfInBounds_toArray, List.set_cons_zero, List.set_cons_succ]
    refine wpAnyH_take (i := 38) (oi := ⟨some 81, _, _, _, _, none⟩) (v := ?_) rfl (by kernel_rfl) (by kernel_rfl) (by kernel_rfl) (fun _ _ _ h => h) (Or.inl ⟨by rfl, ?_⟩) (by assumption) ?_
    rotate_left
    · intro w hSw; go_simp; try with_reducible rfl
    try simp only [Act.put, List.setIfInBounds_toArray, List.set_cons_zero, List.set_cons_succ]
    refine wpAnyH_take (i := 39) (oi := ⟨some 4, _, _, _, _, none⟩) (v := ?_) rfl (by kernel_rfl) (by kernel_rfl) (by kernel_rfl) (fun _ _ _ h => h) (Or.inl ⟨by rfl, ?_⟩) (by assumption) ?_
    rotate_left
    · intro w hSw; go_simp; try with_reducible rfl
    try simp only [Act.put, List.setIfInBounds_toArray, List.set_cons_zero, List.set_cons_succ]
    refine wpAnyH_done (by kernel_rfl) ?_ _
    refine NoPanic.normal ?_
    go_wp2
    go_ret
    exact ⟨by simp, Ch.below_of hBx hHeld (fun k hk => hk.elim) hBx.size⟩
end Go.Proofs.YtddeeigdcolegaaDoor
