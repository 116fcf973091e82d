/- W5: layer 6: wakes, same, the law ViewsCounts. -/
import Derived.Test.YthibjdbjkkejeaaW4
namespace Go.Proofs.Ythibjdbjkkejeaa
open Go.RowKit Go.V
theorem leadZ_bd (n : Int) (M : Nat) (r : Int) : -1 ≤ leadZ n M r ∧ leadZ n M r < 16 := by
  unfold leadZ
  split
  · rename_i h
    have hz := rgt_sz h.1
    have hlt : r.toNat % szM M < szM M := Nat.mod_lt _ (by omega)
    obtain ⟨x, hx, hx16, _⟩ := mem_at M _ hlt
    rw [List.getD, hx]
    simp
    omega
  · omega
set_option maxHeartbeats 1000000 in
theorem wakes6_any (w : World) :
    Calls Try.prog 8 #[] w fun e w' => e = .returned (.bool true) ∧ Below w.heap.size w w' := by
  have h1 := (right_any 0 15 · (by omega))
  have h2 := (flt_any 0 15 · (by omega))
  have h3 := (quo_any 0 15 · (by omega))
  have h4 := (eno_any 0 15 · (by omega))
  have h5 := (leadr_any 0 15 5 · (by omega) (by omega) (by omega))
  rw [show rgt 0 15 = true from by decide] at h1
  rw [show fltN 0 15 = 1 from by decide] at h2
  rw [show quoN 0 15 = 3 from by decide] at h3
  rw [show enoN 0 15 = 3 from by decide] at h4
  rw [show leadZ 0 15 5 = 1 from by decide] at h5
  unfold vw at h1 h2 h3 h4 h5
  rw [show ((15 : Nat) : Int) = 15 from rfl] at h1 h2 h3 h4 h5
  have hb := Blk.new' w 24 [.int .i64 0, .int .u16 15]
  have hB : Below w.heap.size w (w.alloc (.cells #[.int .i64 0, .int .u16 15] 24)) := (Below.refl _ _).alloc (Nat.le_refl _) _
  go_enter Try.func8, Try.ntmps8
  go_wp2_with (fail)
  obtain ⟨w0, hw0⟩ : ∃ w0, w0 = w.alloc (.cells #[.int .i64 0, .int .u16 15] 24) := ⟨_, rfl⟩
  rw [← hw0] at hb hB ⊢
  clear hw0
  obtain ⟨g, hg⟩ : ∃ g, g = w.heap.size := ⟨_, rfl⟩
  rw [← hg] at hb ⊢
  clear hg
  refine (h1 _).mono ?_
  rintro e w1 ⟨rfl, hB1⟩
  have hb1 := hb.below hB1
  have hB1' := hB.trans (hB1.mono hB.size)
  have c0 := hb1.cellAt 0 _ rfl
  have c1 := hb1.cellAt 1 _ rfl
  go_wp2_with (fail)
  refine (h2 _).mono ?_
  rintro e w2 ⟨rfl, hB2⟩
  have hb2 := hb1.below hB2
  have hB2' := hB1'.trans (hB2.mono hB1'.size)
  clear c0 c1
  have c0 := hb2.cellAt 0 _ rfl
  have c1 := hb2.cellAt 1 _ rfl
  go_wp2_with (fail)
  refine (h3 _).mono ?_
  rintro e w3 ⟨rfl, hB3⟩
  have hb3 := hb2.below hB3
  have hB3' := hB2'.trans (hB3.mono hB2'.size)
  clear c0 c1
  have c0 := hb3.cellAt 0 _ rfl
  have c1 := hb3.cellAt 1 _ rfl
  go_wp2_with (fail)
  refine (h4 _).mono ?_
  rintro e w4 ⟨rfl, hB4⟩
  have hb4 := hb3.below hB4
  have hB4' := hB3'.trans (hB4.mono hB3'.size)
  clear c0 c1
  have c0 := hb4.cellAt 0 _ rfl
  have c1 := hb4.cellAt 1 _ rfl
  go_wp2_with (fail)
  refine (h5 _).mono ?_
  rintro e w5 ⟨rfl, hB5⟩
  go_wp2
  go_ret
  exact ⟨rfl, hB4'.trans (hB5.mono hB4'.size)⟩
theorem same6_any (v u : Value) (l : List Nat) (b1 b2 : Nat) (w : World) (hl16 : l.length ≤ 16) (ha : w.ownsRow b1 3 1 v l.length (ivs l)) (hb : w.ownsRow b2 3 1 u l.length (ivs l)) :
    Calls Try.prog 11 #[v, u] w fun e w' => e = .returned (.bool true) ∧ Below w.heap.size w w' := by
  obtain ⟨A, c, rfl⟩ := own_shape ha
  obtain ⟨B, d, rfl⟩ := own_shape hb
  have hn : ((l.length : Int) != (l.length : Int)) = false := by simp
  go_enter Try.func11, Try.ntmps11
  go_wp2
  go_loopw [13] (fun iv wr => ∃ (i n : Nat), i ≤ l.length ∧ iv = .int .i64 i ∧ wr = w.drewN n) (fun iv _ => l.length - (intOf iv).toNat)
  case atStart => exact ⟨0, 0, by omega, rfl, rfl⟩
  case round =>
    obtain ⟨i, n, hi, rfl, rfl⟩ := hrel
    by_cases hil : i < l.length
    · obtain ⟨x, hx⟩ : ∃ x, l[i]? = some x := ⟨_, List.getElem?_eq_getElem hil⟩
      obtain ⟨g1, c1, hs1, _, _, hc1⟩ := own_ivs ha (by omega)
      obtain ⟨g2, c2, hs2, _, _, hc2⟩ := own_ivs hb (by omega)
      injection hs1 with hA hn' hc'
      injection hs2 with hB hn'' hc''
      subst hA
      subst hB
      subst hc'
      subst hc''
      clear hn' hn''
      have e1 := hc1 i x hx
      have e2 := hc2 i x hx
      have hkI : (i : Int) < (l.length : Int) := by omega
      clear hc1 hc2 ha hb hx
      have hne : ((x : Int) != (x : Int)) = false := by simp
      go_wp2
      go_quiet (fail)
      go_wp2
      go_roundw
      case rel => exact ⟨i + 1, _, by omega, by go_num, rfl⟩
      case measure => simp [intOf]; omega
    · go_wp2
      go_ret
      exact ⟨rfl, below_drewN (Below.refl _ _) _⟩
set_option maxRecDepth 100000 in
set_option maxHeartbeats 4000000 in
theorem viewsCounts_law (n : Int) (M : Nat) (i r : Int) (w : World) (h : M < 65536) (hi1 : -9223372036854775808 ≤ i) (hi2 : i ≤ 9223372036854775807) (hr1 : -9223372036854775808 ≤ r) (hr2 : r ≤ 9223372036854775807) :
    Calls Try.prog 3 #[vw n M, .int .i64 i, .int .i64 r] w fun e w' => e = .returned (.bool true) ∧ Below w.heap.size w w' := by
  have h1 := (right_any n M · h)
  have h2 := (rright_any n M · h)
  have h3 := (members_any n M · h)
  have h4 := (rmembers_any n M · h)
  have h5 := (has_any n M i · h hi1 hi2)
  have h6 := (rhas_any n M i · h)
  have h7 := (flt_any n M · h)
  have h8 := (rflt_any n M · h)
  have h9 := (quo_any n M · h)
  have h10 := (rquo_any n M · h)
  have h11 := (eno_any n M · h)
  have h12 := (reno_any n M · h)
  have h13 := (som_any n M · h)
  have h14 := (rsom_any n M · h)
  have h15 := (leadr_any n M r · h hr1 hr2)
  have h16 := (rleadr_any n M r · h hr1 hr2)
  unfold vw at h1 h2 h3 h4 h5 h6 h7 h8 h9 h10 h11 h12 h13 h14 h15 h16 ⊢
  obtain ⟨x1, e1⟩ : ∃ x, x = rgt n M := ⟨_, rfl⟩
  rw [← e1] at h1 h2
  obtain ⟨x3, e3⟩ : ∃ x, x = memL M 16 := ⟨_, rfl⟩
  rw [← e3] at h3 h4
  have hl3 : x3.length ≤ 16 := by rw [e3]; exact sz_le M
  obtain ⟨x5, e5⟩ : ∃ x, x = hasB M i := ⟨_, rfl⟩
  rw [← e5] at h5 h6
  obtain ⟨x7, e7⟩ : ∃ x, x = fltN n M := ⟨_, rfl⟩
  rw [← e7] at h7 h8
  obtain ⟨x9, e9⟩ : ∃ x, x = quoN n M := ⟨_, rfl⟩
  rw [← e9] at h9 h10
  obtain ⟨x11, e11⟩ : ∃ x, x = enoN n M := ⟨_, rfl⟩
  rw [← e11] at h11 h12
  obtain ⟨x13, e13⟩ : ∃ x, x = somN n M := ⟨_, rfl⟩
  rw [← e13] at h13 h14
  obtain ⟨x15, e15⟩ : ∃ x, x = leadZ n M r := ⟨_, rfl⟩
  rw [← e15] at h15 h16
  clear e1 e3 e5 e7 e9 e11 e13 e15
  have hb := Blk.new' w 24 [.int .i64 n, .int .u16 (M : Int)]
  have hB : Below w.heap.size w (w.alloc (.cells #[.int .i64 n, .int .u16 (M : Int)] 24)) := (Below.refl _ _).alloc (Nat.le_refl _) _
  go_enter Try.func3, Try.ntmps3
  go_wp2_with (fail)
  obtain ⟨w0, hw0⟩ : ∃ w0, w0 = w.alloc (.cells #[.int .i64 n, .int .u16 (M : Int)] 24) := ⟨_, rfl⟩
  rw [← hw0] at hb hB ⊢
  clear hw0
  obtain ⟨g, hg⟩ : ∃ g, g = w.heap.size := ⟨_, rfl⟩
  rw [← hg] at hb ⊢
  clear hg
  refine (wakes6_any _).mono ?_
  rintro e wq ⟨rfl, hB1⟩
  have hb1 := hb.below hB1
  have hB1' := hB.trans (hB1.mono hB.size)
  have HV : Hid (∀ W, Ch nob wq W → W.rangeAt g 0 [.int .i64 n, .int .u16 (M : Int)]) := fun W h => hb1.chAt (fun h => h) h
  clear hb hb1
  go_upto_region 3 with (fail)
  refine wp_region_noPanic ?_
  refine wp_region_held_drew (S := Ch nob wq) (by kernel_rfl) ((Ch.refl _ _).drew) (fun hHeld => ?_)
  refine wpAnyH_take (i := 0) (oi := ⟨some 9, .load 24 (.tmp 3), _, _, _, none⟩) (v := _) rfl (by kernel_rfl) (by kernel_rfl) (by kernel_rfl) (fun _ _ _ h => h) (yieldsIf_load_mid (by rfl) 24 (.tmp 3) (by rfl) _ (0) (by rfl) _ _ (fun _ hs => HV.out _ hs) Try.underlying24 rfl (sizeV)) (by assumption) ?_
  try simp only [Act.put, List.setIfInBounds_toArray, List.set_cons_zero, List.set_cons_succ]
  refine wpAnyH_take (i := 2) (oi := ⟨some 11, .load 24 (.tmp 3), _, _, _, none⟩) (v := _) rfl (by kernel_rfl) (by kernel_rfl) (by kernel_rfl) (fun _ _ _ h => h) (yieldsIf_load_mid (by rfl) 24 (.tmp 3) (by rfl) _ (0) (by rfl) _ _ (fun _ hs => HV.out _ hs) Try.underlying24 rfl (sizeV)) (by assumption) ?_
  try simp only [Act.put, List.setIfInBounds_toArray, List.set_cons_zero, List.set_cons_succ]
  refine wpAnyH_ready (rs := [1]) (by kernel_rfl) (by simp) ?_
  refine AllReadyH.cons (o := ⟨some 10, _, _, _, _, none⟩) rfl (fun K hK => ?_) AllReadyH.nil
  go_simp
  refine (h1 _).mono ?_
  rintro e' w11 ⟨rfl, hB11⟩
  have hC11 := hHeld.belowR hB11
  refine hK.out _ _ (hC11) (fun hHeld => ?_)
  clear hK K
  try simp only [Act.put, List.setIfInBounds_toArray, List.set_cons_zero, List.set_cons_succ]
  refine wpAnyH_ready (rs := [3]) (by kernel_rfl) (by simp) ?_
  refine AllReadyH.cons (o := ⟨some 12, _, _, _, _, none⟩) rfl (fun K hK => ?_) AllReadyH.nil
  go_simp
  refine (h2 _).mono ?_
  rintro e' w12 ⟨rfl, hB12⟩
  have hC12 := hC11.belowR hB12
  refine hK.out _ _ (hC12) (fun hHeld => ?_)
  clear hK K
  try simp only [Act.put, List.setIfInBounds_toArray, List.set_cons_zero, List.set_cons_succ]
  refine wpAnyH_take (i := 4) (oi := ⟨some 13, _, _, _, _, none⟩) (v := ?_) rfl (by kernel_rfl) (by kernel_rfl) (by kernel_rfl) (fun _ _ _ h => h) (Or.inl ⟨by rfl, ?_⟩) (by assumption) ?_
  rotate_left
  · intro w hSw; go_simp; try with_reducible rfl
  try simp only [Act.put, List.setIfInBounds_toArray, List.set_cons_zero, List.set_cons_succ]
  refine wpAnyH_take (i := 5) (oi := ⟨some 14, _, _, _, _, none⟩) (v := ?_) rfl (by kernel_rfl) (by kernel_rfl) (by kernel_rfl) (fun _ _ _ h => h) (Or.inl ⟨by rfl, ?_⟩) (by assumption) ?_
  rotate_left
  · intro w hSw; go_simp; try with_reducible rfl
  try simp only [Act.put, List.setIfInBounds_toArray, List.set_cons_zero, List.set_cons_succ]
  refine wpAnyH_take (i := 6) (oi := ⟨some 15, .load 24 (.tmp 3), _, _, _, some (5, true)⟩) (v := _) rfl (by kernel_rfl) (by kernel_rfl) (by kernel_rfl) (fun _ _ _ h => h) (yieldsIf_load_mid (by rfl) 24 (.tmp 3) (by rfl) _ (0) (by rfl) _ _ (fun _ hs => HV.out _ hs) Try.underlying24 rfl (sizeV)) (by assumption) ?_
  try simp only [Act.put, List.setIfInBounds_toArray, List.set_cons_zero, List.set_cons_succ]
  refine wpAnyH_take (i := 8) (oi := ⟨some 17, .load 24 (.tmp 3), _, _, _, some (5, true)⟩) (v := _) rfl (by kernel_rfl) (by kernel_rfl) (by kernel_rfl) (fun _ _ _ h => h) (yieldsIf_load_mid (by rfl) 24 (.tmp 3) (by rfl) _ (0) (by rfl) _ _ (fun _ hs => HV.out _ hs) Try.underlying24 rfl (sizeV)) (by assumption) ?_
  try simp only [Act.put, List.setIfInBounds_toArray, List.set_cons_zero, List.set_cons_succ]
  refine wpAnyH_ready (rs := [7]) (by kernel_rfl) (by simp) ?_
  refine AllReadyH.cons (o := ⟨some 16, _, _, _, _, some (5, true)⟩) rfl (fun K hK => ?_) AllReadyH.nil
  go_simp
  refine (h3 _).mono ?_
  rintro e' w13 ⟨va, rfl, hoa, hB13⟩
  obtain ⟨Aa, ka, rfl⟩ := own_shape hoa
  have hC13 := hC12.belowR hB13
  refine hK.out _ _ (hC13) (fun hHeld => ?_)
  clear hK K
  try simp only [Act.put, List.setIfInBounds_toArray, List.set_cons_zero, List.set_cons_succ]
  refine wpAnyH_ready (rs := [9]) (by kernel_rfl) (by simp) ?_
  refine AllReadyH.cons (o := ⟨some 18, _, _, _, _, some (5, true)⟩) rfl (fun K hK => ?_) AllReadyH.nil
  go_simp
  refine (h4 _).mono ?_
  rintro e' w14 ⟨vb, rfl, hob, hB14⟩
  have hoa := own_bel hoa hB14
  obtain ⟨Ab, kb, rfl⟩ := own_shape hob
  have hC14 := hC13.belowR hB14
  refine hK.out _ _ (hC14) (fun hHeld => ?_)
  clear hK K
  try simp only [Act.put, List.setIfInBounds_toArray, List.set_cons_zero, List.set_cons_succ]
  refine wpAnyH_ready (rs := [10]) (by kernel_rfl) (by simp) ?_
  refine AllReadyH.cons (o := ⟨some 19, _, _, _, _, some (5, true)⟩) rfl (fun K hK => ?_) AllReadyH.nil
  go_simp
  refine (same6_any _ _ _ _ _ _ hl3 hoa hob).mono ?_
  rintro e' w15 ⟨rfl, hB15⟩
  have hC15 := hC14.belowR hB15
  refine hK.out _ _ (hC15) (fun hHeld => ?_)
  clear hK K
  try simp only [Act.put, List.setIfInBounds_toArray, List.set_cons_zero, List.set_cons_succ]
  refine wpAnyH_take (i := 11) (oi := ⟨some 20, _, _, _, _, none⟩) (v := ?_) rfl (by kernel_rfl) (by kernel_rfl) (by kernel_rfl) (fun _ _ _ h => h) (Or.inl ⟨by rfl, ?_⟩) (by assumption) ?_
  rotate_left
  · intro w hSw; go_simp; try with_reducible rfl
  try simp only [Act.put, List.setIfInBounds_toArray, List.set_cons_zero, List.set_cons_succ]
  refine wpAnyH_take (i := 12) (oi := ⟨some 21, _, _, _, _, none⟩) (v := ?_) rfl (by kernel_rfl) (by kernel_rfl) (by kernel_rfl) (fun _ _ _ h => h) (Or.inl ⟨by rfl, ?_⟩) (by assumption) ?_
  rotate_left
  · intro w hSw; go_simp; try with_reducible rfl
  try simp only [Act.put, List.setIfInBounds_toArray, List.set_cons_zero, List.set_cons_succ]
  refine wpAnyH_take (i := 13) (oi := ⟨some 22, .load 24 (.tmp 3), _, _, _, some (12, true)⟩) (v := _) rfl (by kernel_rfl) (by kernel_rfl) (by kernel_rfl) (fun _ _ _ h => h) (yieldsIf_load_mid (by rfl) 24 (.tmp 3) (by rfl) _ (0) (by rfl) _ _ (fun _ hs => HV.out _ hs) Try.underlying24 rfl (sizeV)) (by assumption) ?_
  try simp only [Act.put, List.setIfInBounds_toArray, List.set_cons_zero, List.set_cons_succ]
  refine wpAnyH_take (i := 14) (oi := ⟨some 23, _, _, _, _, some (12, true)⟩) (v := ?_) rfl (by kernel_rfl) (by kernel_rfl) (by kernel_rfl) (fun _ _ _ h => h) (Or.inl ⟨by rfl, ?_⟩) (by assumption) ?_
  rotate_left
  · intro w hSw; go_simp; try with_reducible rfl
  try simp only [Act.put, List.setIfInBounds_toArray, List.set_cons_zero, List.set_cons_succ]
  refine wpAnyH_take (i := 16) (oi := ⟨some 25, .load 24 (.tmp 3), _, _, _, some (12, true)⟩) (v := _) rfl (by kernel_rfl) (by kernel_rfl) (by kernel_rfl) (fun _ _ _ h => h) (yieldsIf_load_mid (by rfl) 24 (.tmp 3) (by rfl) _ (0) (by rfl) _ _ (fun _ hs => HV.out _ hs) Try.underlying24 rfl (sizeV)) (by assumption) ?_
  try simp only [Act.put, List.setIfInBounds_toArray, List.set_cons_zero, List.set_cons_succ]
  refine wpAnyH_take (i := 17) (oi := ⟨some 26, _, _, _, _, some (12, true)⟩) (v := ?_) rfl (by kernel_rfl) (by kernel_rfl) (by kernel_rfl) (fun _ _ _ h => h) (Or.inl ⟨by rfl, ?_⟩) (by assumption) ?_
  rotate_left
  · intro w hSw; go_simp; try with_reducible rfl
  try simp only [Act.put, List.setIfInBounds_toArray, List.set_cons_zero, List.set_cons_succ]
  refine wpAnyH_ready (rs := [15]) (by kernel_rfl) (by simp) ?_
  refine AllReadyH.cons (o := ⟨some 24, _, _, _, _, some (12, true)⟩) rfl (fun K hK => ?_) AllReadyH.nil
  go_simp
  refine (h5 _).mono ?_
  rintro e' w16 ⟨rfl, hB16⟩
  have hC16 := hC15.belowR hB16
  refine hK.out _ _ (hC16) (fun hHeld => ?_)
  clear hK K
  try simp only [Act.put, List.setIfInBounds_toArray, List.set_cons_zero, List.set_cons_succ]
  refine wpAnyH_ready (rs := [18]) (by kernel_rfl) (by simp) ?_
  refine AllReadyH.cons (o := ⟨some 27, _, _, _, _, some (12, true)⟩) rfl (fun K hK => ?_) AllReadyH.nil
  go_simp
  refine (h6 _).mono ?_
  rintro e' w17 ⟨rfl, hB17⟩
  have hC17 := hC16.belowR hB17
  refine hK.out _ _ (hC17) (fun hHeld => ?_)
  clear hK K
  try simp only [Act.put, List.setIfInBounds_toArray, List.set_cons_zero, List.set_cons_succ]
  refine wpAnyH_take (i := 19) (oi := ⟨some 28, _, _, _, _, some (12, true)⟩) (v := ?_) rfl (by kernel_rfl) (by kernel_rfl) (by kernel_rfl) (fun _ _ _ h => h) (Or.inl ⟨by rfl, ?_⟩) (by assumption) ?_
  rotate_left
  · intro w hSw; go_simp; try with_reducible rfl
  try simp only [Act.put, List.setIfInBounds_toArray, List.set_cons_zero, List.set_cons_succ]
  refine wpAnyH_take (i := 20) (oi := ⟨some 29, _, _, _, _, none⟩) (v := ?_) rfl (by kernel_rfl) (by kernel_rfl) (by kernel_rfl) (fun _ _ _ h => h) (Or.inl ⟨by rfl, ?_⟩) (by assumption) ?_
  rotate_left
  · intro w hSw; go_simp; try with_reducible rfl
  try simp only [Act.put, List.setIfInBounds_toArray, List.set_cons_zero, List.set_cons_succ]
  refine wpAnyH_take (i := 21) (oi := ⟨some 30, _, _, _, _, none⟩) (v := ?_) rfl (by kernel_rfl) (by kernel_rfl) (by kernel_rfl) (fun _ _ _ h => h) (Or.inl ⟨by rfl, ?_⟩) (by assumption) ?_
  rotate_left
  · intro w hSw; go_simp; try with_reducible rfl
  try simp only [Act.put, List.setIfInBounds_toArray, List.set_cons_zero, List.set_cons_succ]
  refine wpAnyH_take (i := 22) (oi := ⟨some 31, .load 24 (.tmp 3), _, _, _, some (21, true)⟩) (v := _) rfl (by kernel_rfl) (by kernel_rfl) (by kernel_rfl) (fun _ _ _ h => h) (yieldsIf_load_mid (by rfl) 24 (.tmp 3) (by rfl) _ (0) (by rfl) _ _ (fun _ hs => HV.out _ hs) Try.underlying24 rfl (sizeV)) (by assumption) ?_
  try simp only [Act.put, List.setIfInBounds_toArray, List.set_cons_zero, List.set_cons_succ]
  refine wpAnyH_take (i := 24) (oi := ⟨some 33, .load 24 (.tmp 3), _, _, _, some (21, true)⟩) (v := _) rfl (by kernel_rfl) (by kernel_rfl) (by kernel_rfl) (fun _ _ _ h => h) (yieldsIf_load_mid (by rfl) 24 (.tmp 3) (by rfl) _ (0) (by rfl) _ _ (fun _ hs => HV.out _ hs) Try.underlying24 rfl (sizeV)) (by assumption) ?_
  try simp only [Act.put, List.setIfInBounds_toArray, List.set_cons_zero, List.set_cons_succ]
  refine wpAnyH_ready (rs := [23]) (by kernel_rfl) (by simp) ?_
  refine AllReadyH.cons (o := ⟨some 32, _, _, _, _, some (21, true)⟩) rfl (fun K hK => ?_) AllReadyH.nil
  go_simp
  refine (h7 _).mono ?_
  rintro e' w18 ⟨rfl, hB18⟩
  have hC18 := hC17.belowR hB18
  refine hK.out _ _ (hC18) (fun hHeld => ?_)
  clear hK K
  try simp only [Act.put, List.setIfInBounds_toArray, List.set_cons_zero, List.set_cons_succ]
  refine wpAnyH_ready (rs := [25]) (by kernel_rfl) (by simp) ?_
  refine AllReadyH.cons (o := ⟨some 34, _, _, _, _, some (21, true)⟩) rfl (fun K hK => ?_) AllReadyH.nil
  go_simp
  refine (h8 _).mono ?_
  rintro e' w19 ⟨rfl, hB19⟩
  have hC19 := hC18.belowR hB19
  refine hK.out _ _ (hC19) (fun hHeld => ?_)
  clear hK K
  try simp only [Act.put, List.setIfInBounds_toArray, List.set_cons_zero, List.set_cons_succ]
  refine wpAnyH_take (i := 26) (oi := ⟨some 35, _, _, _, _, some (21, true)⟩) (v := ?_) rfl (by kernel_rfl) (by kernel_rfl) (by kernel_rfl) (fun _ _ _ h => h) (Or.inl ⟨by rfl, ?_⟩) (by assumption) ?_
  rotate_left
  · intro w hSw; go_simp; try with_reducible rfl
  try simp only [Act.put, List.setIfInBounds_toArray, List.set_cons_zero, List.set_cons_succ]
  refine wpAnyH_take (i := 27) (oi := ⟨some 36, _, _, _, _, none⟩) (v := ?_) rfl (by kernel_rfl) (by kernel_rfl) (by kernel_rfl) (fun _ _ _ h => h) (Or.inl ⟨by rfl, ?_⟩) (by assumption) ?_
  rotate_left
  · intro w hSw; go_simp; try with_reducible rfl
  try simp only [Act.put, List.setIfInBounds_toArray, List.set_cons_zero, List.set_cons_succ]
  refine wpAnyH_take (i := 28) (oi := ⟨some 37, _, _, _, _, none⟩) (v := ?_) rfl (by kernel_rfl) (by kernel_rfl) (by kernel_rfl) (fun _ _ _ h => h) (Or.inl ⟨by rfl, ?_⟩) (by assumption) ?_
  rotate_left
  · intro w hSw; go_simp; try with_reducible rfl
  try simp only [Act.put, List.setIfInBounds_toArray, List.set_cons_zero, List.set_cons_succ]
  refine wpAnyH_take (i := 29) (oi := ⟨some 38, .load 24 (.tmp 3), _, _, _, some (28, true)⟩) (v := _) rfl (by kernel_rfl) (by kernel_rfl) (by kernel_rfl) (fun _ _ _ h => h) (yieldsIf_load_mid (by rfl) 24 (.tmp 3) (by rfl) _ (0) (by rfl) _ _ (fun _ hs => HV.out _ hs) Try.underlying24 rfl (sizeV)) (by assumption) ?_
  try simp only [Act.put, List.setIfInBounds_toArray, List.set_cons_zero, List.set_cons_succ]
  refine wpAnyH_take (i := 31) (oi := ⟨some 40, .load 24 (.tmp 3), _, _, _, some (28, true)⟩) (v := _) rfl (by kernel_rfl) (by kernel_rfl) (by kernel_rfl) (fun _ _ _ h => h) (yieldsIf_load_mid (by rfl) 24 (.tmp 3) (by rfl) _ (0) (by rfl) _ _ (fun _ hs => HV.out _ hs) Try.underlying24 rfl (sizeV)) (by assumption) ?_
  try simp only [Act.put, List.setIfInBounds_toArray, List.set_cons_zero, List.set_cons_succ]
  refine wpAnyH_ready (rs := [30]) (by kernel_rfl) (by simp) ?_
  refine AllReadyH.cons (o := ⟨some 39, _, _, _, _, some (28, true)⟩) rfl (fun K hK => ?_) AllReadyH.nil
  go_simp
  refine (h9 _).mono ?_
  rintro e' w20 ⟨rfl, hB20⟩
  have hC20 := hC19.belowR hB20
  refine hK.out _ _ (hC20) (fun hHeld => ?_)
  clear hK K
  try simp only [Act.put, List.setIfInBounds_toArray, List.set_cons_zero, List.set_cons_succ]
  refine wpAnyH_ready (rs := [32]) (by kernel_rfl) (by simp) ?_
  refine AllReadyH.cons (o := ⟨some 41, _, _, _, _, some (28, true)⟩) rfl (fun K hK => ?_) AllReadyH.nil
  go_simp
  refine (h10 _).mono ?_
  rintro e' w21 ⟨rfl, hB21⟩
  have hC21 := hC20.belowR hB21
  refine hK.out _ _ (hC21) (fun hHeld => ?_)
  clear hK K
  try simp only [Act.put, List.setIfInBounds_toArray, List.set_cons_zero, List.set_cons_succ]
  refine wpAnyH_take (i := 33) (oi := ⟨some 42, _, _, _, _, some (28, true)⟩) (v := ?_) rfl (by kernel_rfl) (by kernel_rfl) (by kernel_rfl) (fun _ _ _ h => h) (Or.inl ⟨by rfl, ?_⟩) (by assumption) ?_
  rotate_left
  · intro w hSw; go_simp; try with_reducible rfl
  try simp only [Act.put, List.setIfInBounds_toArray, List.set_cons_zero, List.set_cons_succ]
  refine wpAnyH_take (i := 34) (oi := ⟨some 43, _, _, _, _, none⟩) (v := ?_) rfl (by kernel_rfl) (by kernel_rfl) (by kernel_rfl) (fun _ _ _ h => h) (Or.inl ⟨by rfl, ?_⟩) (by assumption) ?_
  rotate_left
  · intro w hSw; go_simp; try with_reducible rfl
  try simp only [Act.put, List.setIfInBounds_toArray, List.set_cons_zero, List.set_cons_succ]
  refine wpAnyH_take (i := 35) (oi := ⟨some 44, _, _, _, _, none⟩) (v := ?_) rfl (by kernel_rfl) (by kernel_rfl) (by kernel_rfl) (fun _ _ _ h => h) (Or.inl ⟨by rfl, ?_⟩) (by assumption) ?_
  rotate_left
  · intro w hSw; go_simp; try with_reducible rfl
  try simp only [Act.put, List.setIfInBounds_toArray, List.set_cons_zero, List.set_cons_succ]
  refine wpAnyH_take (i := 36) (oi := ⟨some 45, .load 24 (.tmp 3), _, _, _, some (35, true)⟩) (v := _) rfl (by kernel_rfl) (by kernel_rfl) (by kernel_rfl) (fun _ _ _ h => h) (yieldsIf_load_mid (by rfl) 24 (.tmp 3) (by rfl) _ (0) (by rfl) _ _ (fun _ hs => HV.out _ hs) Try.underlying24 rfl (sizeV)) (by assumption) ?_
  try simp only [Act.put, List.setIfInBounds_toArray, List.set_cons_zero, List.set_cons_succ]
  refine wpAnyH_take (i := 38) (oi := ⟨some 47, .load 24 (.tmp 3), _, _, _, some (35, true)⟩) (v := _) rfl (by kernel_rfl) (by kernel_rfl) (by kernel_rfl) (fun _ _ _ h => h) (yieldsIf_load_mid (by rfl) 24 (.tmp 3) (by rfl) _ (0) (by rfl) _ _ (fun _ hs => HV.out _ hs) Try.underlying24 rfl (sizeV)) (by assumption) ?_
  try simp only [Act.put, List.setIfInBounds_toArray, List.set_cons_zero, List.set_cons_succ]
  refine wpAnyH_ready (rs := [37]) (by kernel_rfl) (by simp) ?_
  refine AllReadyH.cons (o := ⟨some 46, _, _, _, _, some (35, true)⟩) rfl (fun K hK => ?_) AllReadyH.nil
  go_simp
  refine (h11 _).mono ?_
  rintro e' w22 ⟨rfl, hB22⟩
  have hC22 := hC21.belowR hB22
  refine hK.out _ _ (hC22) (fun hHeld => ?_)
  clear hK K
  try simp only [Act.put, List.setIfInBounds_toArray, List.set_cons_zero, List.set_cons_succ]
  refine wpAnyH_ready (rs := [39]) (by kernel_rfl) (by simp) ?_
  refine AllReadyH.cons (o := ⟨some 48, _, _, _, _, some (35, true)⟩) rfl (fun K hK => ?_) AllReadyH.nil
  go_simp
  refine (h12 _).mono ?_
  rintro e' w23 ⟨rfl, hB23⟩
  have hC23 := hC22.belowR hB23
  refine hK.out _ _ (hC23) (fun hHeld => ?_)
  clear hK K
  try simp only [Act.put, List.setIfInBounds_toArray, List.set_cons_zero, List.set_cons_succ]
  refine wpAnyH_take (i := 40) (oi := ⟨some 49, _, _, _, _, some (35, true)⟩) (v := ?_) rfl (by kernel_rfl) (by kernel_rfl) (by kernel_rfl) (fun _ _ _ h => h) (Or.inl ⟨by rfl, ?_⟩) (by assumption) ?_
  rotate_left
  · intro w hSw; go_simp; try with_reducible rfl
  try simp only [Act.put, List.setIfInBounds_toArray, List.set_cons_zero, List.set_cons_succ]
  refine wpAnyH_take (i := 41) (oi := ⟨some 50, _, _, _, _, none⟩) (v := ?_) rfl (by kernel_rfl) (by kernel_rfl) (by kernel_rfl) (fun _ _ _ h => h) (Or.inl ⟨by rfl, ?_⟩) (by assumption) ?_
  rotate_left
  · intro w hSw; go_simp; try with_reducible rfl
  try simp only [Act.put, List.setIfInBounds_toArray, List.set_cons_zero, List.set_cons_succ]
  refine wpAnyH_take (i := 42) (oi := ⟨some 51, _, _, _, _, none⟩) (v := ?_) rfl (by kernel_rfl) (by kernel_rfl) (by kernel_rfl) (fun _ _ _ h => h) (Or.inl ⟨by rfl, ?_⟩) (by assumption) ?_
  rotate_left
  · intro w hSw; go_simp; try with_reducible rfl
  try simp only [Act.put, List.setIfInBounds_toArray, List.set_cons_zero, List.set_cons_succ]
  refine wpAnyH_take (i := 43) (oi := ⟨some 52, .load 24 (.tmp 3), _, _, _, some (42, true)⟩) (v := _) rfl (by kernel_rfl) (by kernel_rfl) (by kernel_rfl) (fun _ _ _ h => h) (yieldsIf_load_mid (by rfl) 24 (.tmp 3) (by rfl) _ (0) (by rfl) _ _ (fun _ hs => HV.out _ hs) Try.underlying24 rfl (sizeV)) (by assumption) ?_
  try simp only [Act.put, List.setIfInBounds_toArray, List.set_cons_zero, List.set_cons_succ]
  refine wpAnyH_take (i := 45) (oi := ⟨some 54, .load 24 (.tmp 3), _, _, _, some (42, true)⟩) (v := _) rfl (by kernel_rfl) (by kernel_rfl) (by kernel_rfl) (fun _ _ _ h => h) (yieldsIf_load_mid (by rfl) 24 (.tmp 3) (by rfl) _ (0) (by rfl) _ _ (fun _ hs => HV.out _ hs) Try.underlying24 rfl (sizeV)) (by assumption) ?_
  try simp only [Act.put, List.setIfInBounds_toArray, List.set_cons_zero, List.set_cons_succ]
  refine wpAnyH_ready (rs := [44]) (by kernel_rfl) (by simp) ?_
  refine AllReadyH.cons (o := ⟨some 53, _, _, _, _, some (42, true)⟩) rfl (fun K hK => ?_) AllReadyH.nil
  go_simp
  refine (h13 _).mono ?_
  rintro e' w24 ⟨rfl, hB24⟩
  have hC24 := hC23.belowR hB24
  refine hK.out _ _ (hC24) (fun hHeld => ?_)
  clear hK K
  try simp only [Act.put, List.setIfInBounds_toArray, List.set_cons_zero, List.set_cons_succ]
  refine wpAnyH_ready (rs := [46]) (by kernel_rfl) (by simp) ?_
  refine AllReadyH.cons (o := ⟨some 55, _, _, _, _, some (42, true)⟩) rfl (fun K hK => ?_) AllReadyH.nil
  go_simp
  refine (h14 _).mono ?_
  rintro e' w25 ⟨rfl, hB25⟩
  have hC25 := hC24.belowR hB25
  refine hK.out _ _ (hC25) (fun hHeld => ?_)
  clear hK K
  try simp only [Act.put, List.setIfInBounds_toArray, List.set_cons_zero, List.set_cons_succ]
  refine wpAnyH_take (i := 47) (oi := ⟨some 56, _, _, _, _, some (42, true)⟩) (v := ?_) rfl (by kernel_rfl) (by kernel_rfl) (by kernel_rfl) (fun _ _ _ h => h) (Or.inl ⟨by rfl, ?_⟩) (by assumption) ?_
  rotate_left
  · intro w hSw; go_simp; try with_reducible rfl
  try simp only [Act.put, List.setIfInBounds_toArray, List.set_cons_zero, List.set_cons_succ]
  refine wpAnyH_take (i := 48) (oi := ⟨some 57, _, _, _, _, none⟩) (v := ?_) rfl (by kernel_rfl) (by kernel_rfl) (by kernel_rfl) (fun _ _ _ h => h) (Or.inl ⟨by rfl, ?_⟩) (by assumption) ?_
  rotate_left
  · intro w hSw; go_simp; try with_reducible rfl
  try simp only [Act.put, List.setIfInBounds_toArray, List.set_cons_zero, List.set_cons_succ]
  refine wpAnyH_take (i := 49) (oi := ⟨some 58, _, _, _, _, none⟩) (v := ?_) rfl (by kernel_rfl) (by kernel_rfl) (by kernel_rfl) (fun _ _ _ h => h) (Or.inl ⟨by rfl, ?_⟩) (by assumption) ?_
  rotate_left
  · intro w hSw; go_simp; try with_reducible rfl
  try simp only [Act.put, List.setIfInBounds_toArray, List.set_cons_zero, List.set_cons_succ]
  refine wpAnyH_take (i := 50) (oi := ⟨some 59, .load 24 (.tmp 3), _, _, _, some (49, true)⟩) (v := _) rfl (by kernel_rfl) (by kernel_rfl) (by kernel_rfl) (fun _ _ _ h => h) (yieldsIf_load_mid (by rfl) 24 (.tmp 3) (by rfl) _ (0) (by rfl) _ _ (fun _ hs => HV.out _ hs) Try.underlying24 rfl (sizeV)) (by assumption) ?_
  try simp only [Act.put, List.setIfInBounds_toArray, List.set_cons_zero, List.set_cons_succ]
  refine wpAnyH_take (i := 51) (oi := ⟨some 60, _, _, _, _, some (49, true)⟩) (v := ?_) rfl (by kernel_rfl) (by kernel_rfl) (by kernel_rfl) (fun _ _ _ h => h) (Or.inl ⟨by rfl, ?_⟩) (by assumption) ?_
  rotate_left
  · intro w hSw; go_simp; try with_reducible rfl
  try simp only [Act.put, List.setIfInBounds_toArray, List.set_cons_zero, List.set_cons_succ]
  refine wpAnyH_take (i := 53) (oi := ⟨some 62, .load 24 (.tmp 3), _, _, _, some (49, true)⟩) (v := _) rfl (by kernel_rfl) (by kernel_rfl) (by kernel_rfl) (fun _ _ _ h => h) (yieldsIf_load_mid (by rfl) 24 (.tmp 3) (by rfl) _ (0) (by rfl) _ _ (fun _ hs => HV.out _ hs) Try.underlying24 rfl (sizeV)) (by assumption) ?_
  try simp only [Act.put, List.setIfInBounds_toArray, List.set_cons_zero, List.set_cons_succ]
  refine wpAnyH_take (i := 54) (oi := ⟨some 63, _, _, _, _, some (49, true)⟩) (v := ?_) rfl (by kernel_rfl) (by kernel_rfl) (by kernel_rfl) (fun _ _ _ h => h) (Or.inl ⟨by rfl, ?_⟩) (by assumption) ?_
  rotate_left
  · intro w hSw; go_simp; try with_reducible rfl
  try simp only [Act.put, List.setIfInBounds_toArray, List.set_cons_zero, List.set_cons_succ]
  refine wpAnyH_ready (rs := [52]) (by kernel_rfl) (by simp) ?_
  refine AllReadyH.cons (o := ⟨some 61, _, _, _, _, some (49, true)⟩) rfl (fun K hK => ?_) AllReadyH.nil
  go_simp
  refine (h15 _).mono ?_
  rintro e' w26 ⟨rfl, hB26⟩
  have hC26 := hC25.belowR hB26
  refine hK.out _ _ (hC26) (fun hHeld => ?_)
  clear hK K
  try simp only [Act.put, List.setIfInBounds_toArray, List.set_cons_zero, List.set_cons_succ]
  refine wpAnyH_ready (rs := [55]) (by kernel_rfl) (by simp) ?_
  refine AllReadyH.cons (o := ⟨some 64, _, _, _, _, some (49, true)⟩) rfl (fun K hK => ?_) AllReadyH.nil
  go_simp
  refine (h16 _).mono ?_
  rintro e' w27 ⟨rfl, hB27⟩
  have hC27 := hC26.belowR hB27
  refine hK.out _ _ (hC27) (fun hHeld => ?_)
  clear hK K
  try simp only [Act.put, List.setIfInBounds_toArray, List.set_cons_zero, List.set_cons_succ]
  refine wpAnyH_take (i := 56) (oi := ⟨some 65, _, _, _, _, some (49, true)⟩) (v := ?_) rfl (by kernel_rfl) (by kernel_rfl) (by kernel_rfl) (fun _ _ _ h => h) (Or.inl ⟨by rfl, ?_⟩) (by assumption) ?_
  rotate_left
  · intro w hSw; go_simp; try with_reducible rfl
  try simp only [Act.put, List.setIfInBounds_toArray, List.set_cons_zero, List.set_cons_succ]
  refine wpAnyH_take (i := 57) (oi := ⟨some 66, _, _, _, _, none⟩) (v := ?_) rfl (by kernel_rfl) (by kernel_rfl) (by kernel_rfl) (fun _ _ _ h => h) (Or.inl ⟨by rfl, ?_⟩) (by assumption) ?_
  rotate_left
  · intro w hSw; go_simp; try with_reducible rfl
  try simp only [Act.put, List.setIfInBounds_toArray, List.set_cons_zero, List.set_cons_succ]
  refine wpAnyH_take (i := 58) (oi := ⟨some 6, _, _, _, _, none⟩) (v := ?_) rfl (by kernel_rfl) (by kernel_rfl) (by kernel_rfl) (fun _ _ _ h => h) (Or.inl ⟨by rfl, ?_⟩) (by assumption) ?_
  rotate_left
  · intro w hSw; go_simp; try with_reducible rfl
  try simp only [Act.put, List.setIfInBounds_toArray, List.set_cons_zero, List.set_cons_succ]
  refine wpAnyH_done (by kernel_rfl) ?_ _
  refine NoPanic.normal ?_
  go_wp2
  go_ret
  exact ⟨rfl, hB1'.trans (hHeld.below.mono hB1'.size)⟩
end Go.Proofs.Ythibjdbjkkejeaa
