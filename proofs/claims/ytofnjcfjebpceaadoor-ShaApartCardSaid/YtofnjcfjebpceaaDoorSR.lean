/- SR: the law ShaApart. -/
import Derived.Test.YtofnjcfjebpceaaDoorSQ
namespace Go.Proofs.YtofnjcfjebpceaaDoor
open Go.RowKit Go.V

theorem apart_ne (a b : List UInt8) (n : Nat) (hn : 1 ≤ n) (hb : n ≤ b.length) : tt a ≠ tt (a ++ b.take n) := by
  intro e
  have h := congrArg List.length e
  have hm : psz a.length ≤ psz (a ++ b.take n).length := psF_mono 9 _ _ (by rw [List.length_append]; omega)
  simp only [tt, List.length_append, length_packed, List.length_take] at h hm
  omega
theorem bs0 : ∀ W : World, (Instr.buildSlice 22 0 #[]).run Tryd.prog W = .ok (.slice (some ⟨W.heap.size, 0, none⟩) 0 0) (W.alloc (.cells #[] 5)) := fun _ => by kernel_rfl
/-- what stays while the pieces are put together -/
def B2 (w w' : World) : Prop := KS w' ∧ Below w.heap.size w w'
theorem B2.ks {w w' : World} (h : B2 w w') : KS w' := h.1
theorem B2.bl {w w' : World} (h : B2 w w') : Below w.heap.size w w' := h.2
theorem B2.mk' {w w' : World} (hK : KS w) (hB : Below w.heap.size w w') : B2 w w' := ⟨hK.below hB, hB⟩
theorem B2.drew {w w' : World} (h : B2 w w') : B2 w w'.drew := ⟨h.1.drew, h.2.drew⟩
theorem B2.alloc {w w' : World} (h : B2 w w') (o : Obj) : B2 w (w'.alloc o) := ⟨h.1.below ((Below.refl _ _).alloc (Nat.le_refl _) _), h.2.alloc h.2.size _⟩
theorem B2.grown {w w' w'' : World} {row : Option Nat} (h : B2 w w') (hg : w'.grownBy w'' row) (hr : ∀ k, row = some k → w.heap.size ≤ k) (hk : 0 < w.heap.size) : B2 w w'' :=
  ⟨h.1.keep (hg.block _ h.1.lt (fun e => by have := hr _ e.symm; omega)), h.2.grown hg h.2.size hr⟩
theorem flat2 (a b : List UInt8) (ha : a.length ≤ 1000) (hb : b.length ≤ 1000) : ([a, b].map tt).flatten.length ≤ 3000 := by
  have h1 := tt_len a (by omega)
  have h2 := tt_len b (by omega)
  simp
  omega
set_option maxRecDepth 100000 in
set_option maxHeartbeats 4000000 in
theorem shaApart_law (v u : Value) (a b : List UInt8) (k : Int) (F G : Nat → Prop) (w : World) (hK : KS w) (ha : Rd w F v (bys a)) (hb : Rd w G u (bys b)) (k0 : 0 ≤ k) (k1 : k < 256) :
    Calls Tryd.prog 6 #[v, u, .int .u8 k] w fun e w' => e = .returned (.bool true) ∧ Below w.heap.size w w' := by
  obtain ⟨A, c, rfl⟩ := ha.shape
  obtain ⟨B, d, rfl⟩ := hb.shape
  obtain ⟨la, hla⟩ : ∃ la, la = a.length := ⟨_, rfl⟩
  obtain ⟨lb, hlb⟩ : ∃ lb, lb = b.length := ⟨_, rfl⟩
  have hlam : la ≤ 9223372036854775807 := by
    obtain ⟨_, c', e, h1, h2, _⟩ := ha.bytes
    unfold maxLen at h2
    omega
  have hlbm : lb ≤ 9223372036854775807 := by
    obtain ⟨_, c', e, h1, h2, _⟩ := hb.bytes
    unfold maxLen at h2
    omega
  rw [← hla] at ha ⊢
  rw [← hlb] at hb ⊢
  have Hla := hid hla
  have Hlb := hid hlb
  clear hla hlb
  by_cases hg : 200 < la ∨ 200 < lb ∨ lb = 0
  · by_cases g1 : 200 < la
    · go_enter Tryd.func6, Tryd.ntmps6
      go_wp2_with (fail)
      refine (wakes_any _ hK).mono ?_
      rintro e w1 ⟨rfl, hB1⟩
      go_wp2
      go_ret
      exact ⟨rfl, hB1⟩
    · by_cases g2 : 200 < lb
      · go_enter Tryd.func6, Tryd.ntmps6
        go_wp2_with (fail)
        refine (wakes_any _ hK).mono ?_
        rintro e w1 ⟨rfl, hB1⟩
        go_wp2
        go_ret
        exact ⟨rfl, hB1⟩
      · have g3 : lb = 0 := by omega
        subst g3
        go_enter Tryd.func6, Tryd.ntmps6
        go_wp2_with (fail)
        refine (wakes_any _ hK).mono ?_
        rintro e w1 ⟨rfl, hB1⟩
        go_wp2
        go_ret
        exact ⟨rfl, hB1⟩
  · have hal : ¬ 200 < la := by omega
    have hbl : ¬ 200 < lb := by omega
    have hb0 : ((lb : Int) == 0) = false := by rw [beq_eq_false_iff_ne]; omega
    have hbp : 0 < lb := by omega
    have hkk := hK.lt
    clear hg
    have hm0 := Int.emod_nonneg k (show (lb : Int) ≠ 0 by omega)
    have hm1 := Int.emod_lt_of_pos k (show (0 : Int) < (lb : Int) by omega)
    obtain ⟨n, hn⟩ : ∃ n : Nat, (n : Int) = 1 + k % (lb : Int) := ⟨(1 + k % (lb : Int)).toNat, by omega⟩
    have hn1 : 1 ≤ n := by omega
    have hn2 : n ≤ lb := by omega
    have hnn : 1 + k % (lb : Int) = (n : Int) := hn.symm
    clear hn hm0 hm1
    have hbn0 : (lb : Int) ≠ 0 := by omega
    have htl : (b.take n).length = n := by rw [List.length_take, ← Hlb.out]; omega
    obtain ⟨B5, n5, d5, hs5, R5⟩ := hb.cut_h slB (n : Int) (by omega) (by rw [← Hlb.out]; omega)
    obtain ⟨B9, ld, d9, hs9, R9⟩ := hb.cut_l slB (n : Int) (by omega) (by rw [← Hlb.out]; omega)
    rw [Int.toNat_natCast] at R5 R9
    obtain rfl : n5 = n := by rw [R5.cap.1, htl]
    have Htl := hid htl
    clear htl
    have hla2 : ∀ w' : World, Rd w' F (.slice A la c) (bys a) → Src w' A la (bvs a) := fun _ h => by rw [Hla.out] at h ⊢; exact h.src
    have hn5 : ∀ w' : World, Rd w' G (.slice B5 n5 d5) (bys (b.take n5)) → Src w' B5 n5 (bvs (b.take n5)) := fun _ h => by have := h.src; rw [Htl.out] at this; exact this
    have Hla2 := hid hla2
    have Hn5 := hid hn5
    clear hla2 hn5
    have hbs := bs0
    go_enter Tryd.func6, Tryd.ntmps6
    go_wp2_with (fail)
    refine (wakes_any _ hK).mono ?_
    rintro e w1 ⟨rfl, hB1⟩
    have hb2 := B2.mk' hK hB1
    clear hB1
    go_wp2
    refine wp_region_noPanic ?_
    refine wp_region_held_drew (S := B2 w) (by kernel_rfl) (B2.drew hb2) (fun hHeld => ?_)
    obtain ⟨W, hW⟩ : ∃ W, W = w1.drew := ⟨_, rfl⟩
    rw [← hW] at hHeld ⊢
    clear hW
    have hWs := hHeld.2.size
    refine wpAnyH_take (i := 1) (oi := ⟨some 34, .move (.tmp 0), _, _, _, none⟩) (v := ?_) rfl (by kernel_rfl) (by kernel_rfl) (by kernel_rfl) (fun _ _ _ h => h) (Or.inl ⟨by rfl, ?_⟩) (by assumption) ?_
    rotate_left
    · intro w hSw; go_simp; try with_reducible rfl
    try simp only [Act.put, List.setIfInBounds_toArray, List.set_cons_zero, List.set_cons_succ]
    refine wpAnyH_take (i := 3) (oi := ⟨some 36, .move (.tmp 1), _, _, _, none⟩) (v := ?_) rfl (by kernel_rfl) (by kernel_rfl) (by kernel_rfl) (fun _ _ _ h => h) (Or.inl ⟨by rfl, ?_⟩) (by assumption) ?_
    rotate_left
    · intro w hSw; go_simp; try with_reducible rfl
    try simp only [Act.put, List.setIfInBounds_toArray, List.set_cons_zero, List.set_cons_succ]
    refine wpAnyH_take (i := 4) (oi := ⟨some 37, .move (.tmp 7), _, _, _, none⟩) (v := ?_) rfl (by kernel_rfl) (by kernel_rfl) (by kernel_rfl) (fun _ _ _ h => h) (Or.inl ⟨by rfl, ?_⟩) (by assumption) ?_
    rotate_left
    · intro w hSw; go_simp; try with_reducible rfl
    try simp only [Act.put, List.setIfInBounds_toArray, List.set_cons_zero, List.set_cons_succ]
    refine wpAnyH_take (i := 5) (oi := ⟨some 38, _, _, _, _, none⟩) (v := ?_) rfl (by kernel_rfl) (by kernel_rfl) (by kernel_rfl) (fun _ _ _ h => h) (Or.inl ⟨by rfl, ?_⟩) (by assumption) ?_
    rotate_left
    · intro w hSw; go_simp; try with_reducible rfl
    try simp only [Act.put, List.setIfInBounds_toArray, List.set_cons_zero, List.set_cons_succ]
    refine wpAnyH_take (i := 7) (oi := ⟨some 40, .move (.tmp 1), _, _, _, none⟩) (v := ?_) rfl (by kernel_rfl) (by kernel_rfl) (by kernel_rfl) (fun _ _ _ h => h) (Or.inl ⟨by rfl, ?_⟩) (by assumption) ?_
    rotate_left
    · intro w hSw; go_simp; try with_reducible rfl
    try simp only [Act.put, List.setIfInBounds_toArray, List.set_cons_zero, List.set_cons_succ]
    refine wpAnyH_take (i := 8) (oi := ⟨some 41, .move (.tmp 7), _, _, _, none⟩) (v := ?_) rfl (by kernel_rfl) (by kernel_rfl) (by kernel_rfl) (fun _ _ _ h => h) (Or.inl ⟨by rfl, ?_⟩) (by assumption) ?_
    rotate_left
    · intro w hSw; go_simp; try with_reducible rfl
    try simp only [Act.put, List.setIfInBounds_toArray, List.set_cons_zero, List.set_cons_succ]
    refine wpAnyH_take (i := 9) (oi := ⟨some 42, _, _, _, _, none⟩) (v := ?_) rfl (by kernel_rfl) (by kernel_rfl) (by kernel_rfl) (fun _ _ _ h => h) (Or.inl ⟨by rfl, ?_⟩) (by assumption) ?_
    rotate_left
    · intro w hSw; go_simp; try with_reducible rfl
    try simp only [Act.put, List.setIfInBounds_toArray, List.set_cons_zero, List.set_cons_succ]
    refine wpAnyH_ready (rs := [0]) (by kernel_rfl) (by simp) ?_
    refine AllReadyH.cons (o := ⟨some 33, _, _, _, _, none⟩) rfl (fun K hK => ?_) AllReadyH.nil
    go_simp
    have hH0 := B2.alloc hHeld (.cells #[] 5)
    have h0 : (W.alloc (.cells #[] 5)).ownsRow W.heap.size 5 1 (.slice (some ⟨W.heap.size, 0, none⟩) 0 0) 0 [] := World.ownsRow_made W #[] 0 (Nat.le_refl _) (by simp [maxLen]) rfl
    refine hK.out _ _ hH0 (fun hHeld => ?_)
    clear hK K
    try simp only [Act.put, List.setIfInBounds_toArray, List.set_cons_zero, List.set_cons_succ]
    refine wpAnyH_ready (rs := [2]) (by kernel_rfl) (by simp) ?_
    refine AllReadyH.cons (o := ⟨some 35, _, _, _, _, none⟩) rfl (fun K hK => ?_) AllReadyH.nil
    refine step_app (.tmp 33) (.tmp 34) slB (by rfl) (by rfl) (base := W.heap.size) (by rfl) h0 (by rfl) (Hla2.out _ (ha.below hH0.2)) (oneCell_bvs a) (by simp only [maxLen]; omega) (by omega) (by simp) ?_
    intro v3 w3 ho3 hG3
    have hH3 := hH0.grown hG3 (fun k hk => by have := (h0.lt k hk).1; have := hWs; omega) hkk
    refine hK.out _ _ hH3 (fun hHeld => ?_)
    clear hK K
    try simp only [Act.put, List.setIfInBounds_toArray, List.set_cons_zero, List.set_cons_succ]
    refine wpAnyH_ready (rs := [6]) (by kernel_rfl) (by simp) ?_
    refine AllReadyH.cons (o := ⟨some 39, _, _, _, _, none⟩) rfl (fun K hK => ?_) AllReadyH.nil
    refine step_app (.tmp 35) (.tmp 38) slB (by rfl) (by rfl) (base := W.heap.size) (by rfl) ho3 (by rfl) (Hn5.out _ (R5.below hH3.2)) (oneCell_bvs _) (by simp only [maxLen]; omega) (by omega) (by have := hG3.size; simp at this; omega) ?_
    intro v4 w4 ho4 hG4
    have hH4 := hH3.grown hG4 (fun k hk => by have := (ho3.lt k hk).1; have := hWs; omega) hkk
    refine hK.out _ _ hH4 (fun hHeld => ?_)
    clear hK K
    try simp only [Act.put, List.setIfInBounds_toArray, List.set_cons_zero, List.set_cons_succ]
    refine wpAnyH_take (i := 10) (oi := ⟨some 8, .assign (.tmp 39), _, _, _, none⟩) (v := ?_) rfl (by kernel_rfl) (by kernel_rfl) (by kernel_rfl) (fun _ _ _ h => h) (Or.inl ⟨by rfl, ?_⟩) (by assumption) ?_
    rotate_left
    · intro w hSw; go_simp; try with_reducible rfl
    try simp only [Act.put, List.setIfInBounds_toArray, List.set_cons_zero, List.set_cons_succ]
    refine wpAnyH_take (i := 11) (oi := ⟨some 9, .assign (.tmp 42), _, _, _, none⟩) (v := ?_) rfl (by kernel_rfl) (by kernel_rfl) (by kernel_rfl) (fun _ _ _ h => h) (Or.inl ⟨by rfl, ?_⟩) (by assumption) ?_
    rotate_left
    · intro w hSw; go_simp; try with_reducible rfl
    try simp only [Act.put, List.setIfInBounds_toArray, List.set_cons_zero, List.set_cons_succ]
    refine wpAnyH_done (by kernel_rfl) ?_ _
    refine NoPanic.normal ?_
    have hr4 : Rd w4 (fun b => W.heap.size ≤ b) v4 (bys (a ++ b.take n5)) := by
      have e : [] ++ bvs a ++ bvs (b.take n5) = bvs (a ++ b.take n5) := by simp [bvs]
      rw [e] at ho4
      exact Rd.of_own ho4
    obtain ⟨lc, hlc⟩ : ∃ lc, lc = 0 + la + n5 := ⟨_, rfl⟩
    rw [← hlc] at ho4
    obtain ⟨A4, c4, rfl⟩ := own_shape ho4
    have hbs1 := bs2 (.slice A la c) (.slice B lb d) rfl rfl
    have hbs2 := bs2 (.slice A4 lc c4) (.slice B9 ld d9) rfl rfl
    have hdl : (b.drop n5).length ≤ 200 := by rw [List.length_drop, ← Hlb.out]; omega
    have hcl : (a ++ b.take n5).length ≤ 400 := by rw [List.length_append, Htl.out, ← Hla.out]; omega
    have Hs1 : Hid (∀ t ∈ [a, b], t.length ≤ 17592186044416) := by
      intro t ht
      simp at ht
      rcases ht with rfl | rfl
      · rw [← Hla.out]; omega
      · rw [← Hlb.out]; omega
    have Hs2 : Hid (∀ t ∈ [a ++ b.take n5, b.drop n5], t.length ≤ 17592186044416) := by
      intro t ht
      rcases List.mem_cons.1 ht with rfl | ht
      · omega
      · obtain rfl := List.mem_singleton.1 ht
        omega
    have Hf1 : Hid (([a, b].map tt).flatten.length ≤ 8796093022208) := Nat.le_trans (flat2 a b (by rw [← Hla.out]; omega) (by rw [← Hlb.out]; omega)) (by decide)
    have Hf2 : Hid (([a ++ b.take n5, b.drop n5].map tt).flatten.length ≤ 8796093022208) := Nat.le_trans (flat2 _ _ (by omega) (by omega)) (by decide)
    have Hne : Hid (decide (tt a = tt (a ++ b.take n5)) = false) := decide_eq_false (apart_ne a b n5 hn1 (by rw [← Hlb.out]; omega))
    have Hf1' : Hid (([a, b].map tt).flatten.length < 288230376151711744) := Nat.lt_of_le_of_lt Hf1.out (by decide)
    have Hf2' : Hid (([a ++ b.take n5, b.drop n5].map tt).flatten.length < 288230376151711744) := Nat.lt_of_le_of_lt Hf2.out (by decide)
    clear hdl hcl hlc ho4 ho3 h0 hG3 hG4 hs5 hs9 hnn hbs hb2 hHeld hH0 hH3
    go_wp2_with (fail)
    have D1 : Below w4.heap.size w4 (w4.alloc (.cells #[.slice A la c, .slice B lb d] 22)) := (Below.refl _ _).alloc (Nat.le_refl _) _
    refine (all_any _ [a, b] _ _ (hH4.1.below D1) (Rd.tx2 22 (ha.below hH4.2) (hb.below hH4.2)) Hs1.out (by simp) Hf1'.out).mono ?_
    rintro e w5 ⟨rfl, hB5⟩
    have D2 := D1.trans (hB5.mono D1.size)
    have hH5 : B2 w w5 := ⟨hH4.1.below D2, hH4.2.trans (D2.mono hH4.2.size)⟩
    obtain ⟨x, hx⟩ : ∃ x, x = shaF ([a, b].map tt).flatten := ⟨_, rfl⟩
    have hxl : Hid (x.length = 32) := by show _ = _; rw [hx]; exact len_sha _
    rw [← hx]
    have Hx := hid hx
    clear hx
    go_wp2_with (fail)
    have D3 : Below w4.heap.size w4 (w5.alloc (.cells #[.slice A4 lc c4, .slice B9 ld d9] 22)) := D2.alloc D2.size _
    refine (all_any _ [a ++ b.take n5, b.drop n5] _ _ (hH4.1.below D3) (Rd.tx2 22 (hr4.below D2) (R9.below hH5.2)) Hs2.out (by simp) Hf2'.out).mono ?_
    rintro e w6 ⟨rfl, hB6⟩
    have D4 := D3.trans (hB6.mono D3.size)
    obtain ⟨y, hy⟩ : ∃ y, y = shaF ([a ++ b.take n5, b.drop n5].map tt).flatten := ⟨_, rfl⟩
    have hyl : Hid (y.length = 32) := by show _ = _; rw [hy]; exact len_sha _
    rw [← hy]
    have Hy := hid hy
    clear hy hbs1 hbs2
    have hz1 : Blk ((w6.alloc (.cells (zs8 32).toArray 25)).alloc (.cells (zs8 32).toArray 25)) w6.heap.size 25 (zs8 32) := (Blk.new' w6 25 (zs8 32)).alloc _
    have hz2 : Blk ((w6.alloc (.cells (zs8 32).toArray 25)).alloc (.cells (zs8 32).toArray 25)) (w6.heap.size + 1) 25 (zs8 32) := by
      have := Blk.new' (w6.alloc (.cells (zs8 32).toArray 25)) 25 (zs8 32)
      simpa using this
    have D5 : Below w4.heap.size w4 ((w6.alloc (.cells (zs8 32).toArray 25)).alloc (.cells (zs8 32).toArray 25)) := (D4.alloc D4.size _).alloc (by have := D4.size; simp; omega) _
    have hD4s := D4.size
    go_wp2_with (first | (refine wp_new 25 rfl rfl zero25 ?_) | (refine wp_st (o := ⟨none, .store _ (.tmp 10) (.tmp 46), _, _, _, none⟩) 25 (.tmp 10) (.tmp 46) rfl rfl rfl (f := 0) rfl (l := bvs x) rfl hz1 (by simp [zs8, len_bvs, hxl.out]) (by rw [len_bvs, hxl.out]; exact size25) (oneCell_bvs _) ?_; intro w7 hb7 hG7; refine wp_stop ?_))
    rw [set25 _ hxl.out] at hb7
    have hz7 := hz2.keep (hG7.block _ hz2.lt (by intro e; injection e with e; omega))
    have D7 := D5.grown hG7 D5.size (by intro k hk; injection hk with hk; omega)
    refine wp_go ?_
    refine wp_st 25 (.tmp 11) (.tmp 50) (by rfl) (by rfl) (by rfl) (f := 0) (by rfl) (l := bvs y) (by rfl) hz7 (by simp [zs8, len_bvs, hyl.out]) (by rw [len_bvs, hyl.out]; exact size25) (oneCell_bvs _) ?_
    intro w9 hb9 hG9
    rw [set25 _ hyl.out] at hb9
    have hb7' := hb7.keep (hG9.block _ hb7.lt (by intro e; injection e with e; omega))
    have D9 := D7.grown hG9 D7.size (by intro k hk; injection hk with hk; omega)
    have hB9 : Below w.heap.size w w9 := hH4.2.trans (D9.mono hH4.2.size)
    have hC : C2 x y w6.heap.size (w6.heap.size + 1) w9 w9 := ⟨hb7', hb9, hK.below hB9, Below.refl _ _⟩
    have Ra := ha.below hB9
    have Rb := hb.below hB9
    have Rc := hr4.below D9
    have Re := R9.below hB9
    have hla9 := Hla.out
    have hlb9 := Hlb.out
    have heq1 := eqB x hxl.out
    have heq2 := eqB y hyl.out
    have hbs1 := bs2 (.slice A la c) (.slice B lb d) rfl rfl
    have hbs2 := bs2 (.slice A4 lc c4) (.slice B9 ld d9) rfl rfl
    obtain ⟨b10, hb10⟩ : ∃ b10, b10 = w6.heap.size := ⟨_, rfl⟩
    rw [← hb10] at hC ⊢
    clear hb10 hG9 hG7 hb7 hb9 hb7' hz7 hz1 hz2 D1 D2 D3 D4 D5 D7 hla9 hlb9 hH5 hB5 hB6
    go_wp2
    refine wp_region_noPanic ?_
    refine wp_region_held_drew (S := C2 x y b10 (b10 + 1) w9) (by kernel_rfl) hC.drew (fun hHeld => ?_)
    obtain ⟨W2, hW2⟩ : ∃ W2, W2 = w9.drew := ⟨_, rfl⟩
    rw [← hW2] at hHeld ⊢
    clear hW2
    have hHeld0 := hHeld
    refine wpAnyH_take (i := 0) (oi := ⟨some 51, .load 25 (.tmp 10), _, _, _, none⟩) (v := _) rfl (by kernel_rfl) (by kernel_rfl) (by kernel_rfl) (fun _ _ _ h => h) (yieldsIf_load_mid (by rfl) 25 (.tmp 10) (by rfl) _ 0 (by rfl) _ _ (fun _ hs => C2.r7 hs) und25 rfl (by rw [len_bvs, hxl.out]; exact size25)) (by assumption) ?_
    try simp only [Act.put, List.setIfInBounds_toArray, List.set_cons_zero, List.set_cons_succ]
    refine wpAnyH_take (i := 1) (oi := ⟨some 52, .move (.tmp 0), _, _, _, none⟩) (v := ?_) rfl (by kernel_rfl) (by kernel_rfl) (by kernel_rfl) (fun _ _ _ h => h) (Or.inl ⟨by rfl, ?_⟩) (by assumption) ?_
    rotate_left
    · intro w hSw; go_simp; try with_reducible rfl
    try simp only [Act.put, List.setIfInBounds_toArray, List.set_cons_zero, List.set_cons_succ]
    refine wpAnyH_take (i := 2) (oi := ⟨some 53, .move (.tmp 1), _, _, _, none⟩) (v := ?_) rfl (by kernel_rfl) (by kernel_rfl) (by kernel_rfl) (fun _ _ _ h => h) (Or.inl ⟨by rfl, ?_⟩) (by assumption) ?_
    rotate_left
    · intro w hSw; go_simp; try with_reducible rfl
    try simp only [Act.put, List.setIfInBounds_toArray, List.set_cons_zero, List.set_cons_succ]
    refine wpAnyH_ready (rs := [3]) (by kernel_rfl) (by simp) ?_
    refine AllReadyH.cons (o := ⟨some 54, _, _, _, _, none⟩) rfl (fun K hK => ?_) AllReadyH.nil
    go_simp
    have q0 := hHeld.below ((Below.refl W2.heap.size W2).alloc (Nat.le_refl _) (.cells #[.slice A la c, .slice B lb d] 22))
    refine hK.out _ _ q0 (fun hHeld => ?_)
    clear hK K
    try simp only [Act.put, List.setIfInBounds_toArray, List.set_cons_zero, List.set_cons_succ]
    refine wpAnyH_ready (rs := [4]) (by kernel_rfl) (by simp) ?_
    refine AllReadyH.cons (o := ⟨some 55, _, _, _, _, none⟩) rfl (fun K hK => ?_) AllReadyH.nil
    go_simp
    refine (ref_all_any _ [a, b] _ _ (Rd.tx2 22 (Ra.below hHeld0.bl) (Rb.below hHeld0.bl)) Hs1.out (by simp) Hf1.out).mono ?_
    rintro e' wA ⟨rfl, hBA⟩
    rw [← Hx.out]
    have q1 := q0.below hBA
    refine hK.out _ _ q1 (fun hHeld => ?_)
    clear hK K
    try simp only [Act.put, List.setIfInBounds_toArray, List.set_cons_zero, List.set_cons_succ]
    refine wpAnyH_take (i := 5) (oi := ⟨some 56, _, _, _, _, none⟩) (v := ?_) rfl (by kernel_rfl) (by kernel_rfl) (by kernel_rfl) (fun _ _ _ h => h) (Or.inl ⟨by rfl, ?_⟩) (by assumption) ?_
    rotate_left
    · intro w hSw; go_simp; try with_reducible rfl
    try simp only [Act.put, List.setIfInBounds_toArray, List.set_cons_zero, List.set_cons_succ]
    refine wpAnyH_take (i := 6) (oi := ⟨some 57, .move (.tmp 56), _, _, _, none⟩) (v := ?_) rfl (by kernel_rfl) (by kernel_rfl) (by kernel_rfl) (fun _ _ _ h => h) (Or.inl ⟨by rfl, ?_⟩) (by assumption) ?_
    rotate_left
    · intro w hSw; go_simp; try with_reducible rfl
    try simp only [Act.put, List.setIfInBounds_toArray, List.set_cons_zero, List.set_cons_succ]
    refine wpAnyH_take (i := 7) (oi := ⟨some 58, .load 25 (.tmp 11), _, _, _, some (6, true)⟩) (v := _) rfl (by kernel_rfl) (by kernel_rfl) (by kernel_rfl) (fun _ _ _ h => h) (yieldsIf_load_mid (by rfl) 25 (.tmp 11) (by rfl) _ 0 (by rfl) _ _ (fun _ hs => C2.r3 hs) und25 rfl (by rw [len_bvs, hyl.out]; exact size25)) (by assumption) ?_
    try simp only [Act.put, List.setIfInBounds_toArray, List.set_cons_zero, List.set_cons_succ]
    refine wpAnyH_take (i := 8) (oi := ⟨some 59, .move (.tmp 8), _, _, _, some (6, true)⟩) (v := ?_) rfl (by kernel_rfl) (by kernel_rfl) (by kernel_rfl) (fun _ _ _ h => h) (Or.inl ⟨by rfl, ?_⟩) (by assumption) ?_
    rotate_left
    · intro w hSw; go_simp; try with_reducible rfl
    try simp only [Act.put, List.setIfInBounds_toArray, List.set_cons_zero, List.set_cons_succ]
    refine wpAnyH_take (i := 9) (oi := ⟨some 60, .move (.tmp 9), _, _, _, some (6, true)⟩) (v := ?_) rfl (by kernel_rfl) (by kernel_rfl) (by kernel_rfl) (fun _ _ _ h => h) (Or.inl ⟨by rfl, ?_⟩) (by assumption) ?_
    rotate_left
    · intro w hSw; go_simp; try with_reducible rfl
    try simp only [Act.put, List.setIfInBounds_toArray, List.set_cons_zero, List.set_cons_succ]
    refine wpAnyH_ready (rs := [10]) (by kernel_rfl) (by simp) ?_
    refine AllReadyH.cons (o := ⟨some 61, _, _, _, _, some (6, true)⟩) rfl (fun K hK => ?_) AllReadyH.nil
    go_simp
    have q2 := q1.below ((Below.refl wA.heap.size wA).alloc (Nat.le_refl _) (.cells #[.slice A4 lc c4, .slice B9 ld d9] 22))
    refine hK.out _ _ q2 (fun hHeld => ?_)
    clear hK K
    try simp only [Act.put, List.setIfInBounds_toArray, List.set_cons_zero, List.set_cons_succ]
    refine wpAnyH_ready (rs := [11]) (by kernel_rfl) (by simp) ?_
    refine AllReadyH.cons (o := ⟨some 62, _, _, _, _, some (6, true)⟩) rfl (fun K hK => ?_) AllReadyH.nil
    go_simp
    refine (ref_all_any _ [a ++ b.take n5, b.drop n5] _ _ (Rd.tx2 22 (Rc.below q1.bl) (Re.below q1.bl)) Hs2.out (by simp) Hf2.out).mono ?_
    rintro e' wB ⟨rfl, hBB⟩
    rw [← Hy.out]
    have q3 := q2.below hBB
    refine hK.out _ _ q3 (fun hHeld => ?_)
    clear hK K
    try simp only [Act.put, List.setIfInBounds_toArray, List.set_cons_zero, List.set_cons_succ]
    refine wpAnyH_take (i := 12) (oi := ⟨some 63, _, _, _, _, some (6, true)⟩) (v := ?_) rfl (by kernel_rfl) (by kernel_rfl) (by kernel_rfl) (fun _ _ _ h => h) (Or.inl ⟨by rfl, ?_⟩) (by assumption) ?_
    rotate_left
    · intro w hSw; go_simp; try with_reducible rfl
    try simp only [Act.put, List.setIfInBounds_toArray, List.set_cons_zero, List.set_cons_succ]
    refine wpAnyH_take (i := 13) (oi := ⟨some 64, _, _, _, _, none⟩) (v := ?_) rfl (by kernel_rfl) (by kernel_rfl) (by kernel_rfl) (fun _ _ _ h => h) (Or.inl ⟨by rfl, ?_⟩) (by assumption) ?_
    rotate_left
    · intro w hSw; go_simp; try with_reducible rfl
    try simp only [Act.put, List.setIfInBounds_toArray, List.set_cons_zero, List.set_cons_succ]
    refine wpAnyH_take (i := 14) (oi := ⟨some 65, .move (.tmp 64), _, _, _, none⟩) (v := ?_) rfl (by kernel_rfl) (by kernel_rfl) (by kernel_rfl) (fun _ _ _ h => h) (Or.inl ⟨by rfl, ?_⟩) (by assumption) ?_
    rotate_left
    · intro w hSw; go_simp; try with_reducible rfl
    try simp only [Act.put, List.setIfInBounds_toArray, List.set_cons_zero, List.set_cons_succ]
    refine wpAnyH_take (i := 15) (oi := ⟨some 66, .move (.tmp 0), _, _, _, some (14, true)⟩) (v := ?_) rfl (by kernel_rfl) (by kernel_rfl) (by kernel_rfl) (fun _ _ _ h => h) (Or.inl ⟨by rfl, ?_⟩) (by assumption) ?_
    rotate_left
    · intro w hSw; go_simp; try with_reducible rfl
    try simp only [Act.put, List.setIfInBounds_toArray, List.set_cons_zero, List.set_cons_succ]
    refine wpAnyH_take (i := 17) (oi := ⟨some 68, .move (.tmp 8), _, _, _, some (14, true)⟩) (v := ?_) rfl (by kernel_rfl) (by kernel_rfl) (by kernel_rfl) (fun _ _ _ h => h) (Or.inl ⟨by rfl, ?_⟩) (by assumption) ?_
    rotate_left
    · intro w hSw; go_simp; try with_reducible rfl
    try simp only [Act.put, List.setIfInBounds_toArray, List.set_cons_zero, List.set_cons_succ]
    refine wpAnyH_ready (rs := [16]) (by kernel_rfl) (by simp) ?_
    refine AllReadyH.cons (o := ⟨some 67, _, _, _, _, some (14, true)⟩) rfl (fun K hK => ?_) AllReadyH.nil
    go_simp
    refine (reft_any _ a _ _ (Ra.below q3.bl) (by rw [← Hla.out]; omega)).mono ?_
    rintro e' wC ⟨v10, rfl, hnC⟩
    have q4 := q3.below hnC.2
    refine hK.out _ _ q4 (fun hHeld => ?_)
    clear hK K
    try simp only [Act.put, List.setIfInBounds_toArray, List.set_cons_zero, List.set_cons_succ]
    refine wpAnyH_ready (rs := [18]) (by kernel_rfl) (by simp) ?_
    refine AllReadyH.cons (o := ⟨some 69, _, _, _, _, some (14, true)⟩) rfl (fun K hK => ?_) AllReadyH.nil
    go_simp
    refine (reft_any _ (a ++ b.take n5) _ _ (Rc.below q4.bl) (by rw [List.length_append, Htl.out, ← Hla.out]; omega)).mono ?_
    rintro e' wD ⟨v11, rfl, hnD⟩
    have q5 := q4.below hnD.2
    refine hK.out _ _ q5 (fun hHeld => ?_)
    clear hK K
    try simp only [Act.put, List.setIfInBounds_toArray, List.set_cons_zero, List.set_cons_succ]
    refine wpAnyH_ready (rs := [19]) (by kernel_rfl) (by simp) ?_
    refine AllReadyH.cons (o := ⟨some 70, _, _, _, _, some (14, true)⟩) rfl (fun K hK => ?_) AllReadyH.nil
    go_simp
    refine (same_b _ _ (tt a) (tt (a ++ b.take n5)) _ _ _ (hnC.rd.below hnD.2) hnD.rd).mono ?_
    rintro e' wE ⟨rfl, hBE⟩
    rw [Hne.out]
    have q6 := q5.below hBE
    refine hK.out _ _ q6 (fun hHeld => ?_)
    clear hK K
    try simp only [Act.put, List.setIfInBounds_toArray, List.set_cons_zero, List.set_cons_succ]
    refine wpAnyH_take (i := 20) (oi := ⟨some 71, _, _, _, _, some (14, true)⟩) (v := ?_) rfl (by kernel_rfl) (by kernel_rfl) (by kernel_rfl) (fun _ _ _ h => h) (Or.inl ⟨by rfl, ?_⟩) (by assumption) ?_
    rotate_left
    · intro w hSw; go_simp; try with_reducible rfl
    try simp only [Act.put, List.setIfInBounds_toArray, List.set_cons_zero, List.set_cons_succ]
    refine wpAnyH_take (i := 21) (oi := ⟨some 72, _, _, _, _, none⟩) (v := ?_) rfl (by kernel_rfl) (by kernel_rfl) (by kernel_rfl) (fun _ _ _ h => h) (Or.inl ⟨by rfl, ?_⟩) (by assumption) ?_
    rotate_left
    · intro w hSw; go_simp; try with_reducible rfl
    try simp only [Act.put, List.setIfInBounds_toArray, List.set_cons_zero, List.set_cons_succ]
    refine wpAnyH_take (i := 22) (oi := ⟨some 6, .assign (.tmp 72), _, _, _, none⟩) (v := ?_) rfl (by kernel_rfl) (by kernel_rfl) (by kernel_rfl) (fun _ _ _ h => h) (Or.inl ⟨by rfl, ?_⟩) (by assumption) ?_
    rotate_left
    · intro w hSw; go_simp; try with_reducible rfl
    try simp only [Act.put, List.setIfInBounds_toArray, List.set_cons_zero, List.set_cons_succ]
    refine wpAnyH_done (by kernel_rfl) ?_ _
    refine NoPanic.normal ?_
    go_wp2
    go_ret
    exact ⟨rfl, hB9.trans (q6.bl.mono hB9.size)⟩
end Go.Proofs.YtofnjcfjebpceaaDoor
