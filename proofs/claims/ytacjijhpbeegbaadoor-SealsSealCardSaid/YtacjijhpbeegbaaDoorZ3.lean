/- Z3: layer 9: the law SealsSeal. -/
import Derived.Test.YtacjijhpbeegbaaDoorZ2
namespace Go.Proofs.YtacjijhpbeegbaaDoor
open Go.RowKit Go.V
set_option maxRecDepth 100000 in
set_option maxHeartbeats 4000000 in
theorem sealsSeal_law (ks : List (List UInt8)) (m : Mg) (uk ub up : Value) (F F1 F2 : Nat → Prop) (w : World) (hKS : KS w) (hm : MgIn m) (hk : Rd w F uk (tx ks)) (hub : Rd w F1 ub (bys m.b)) (hup : Rd w F2 up (tx m.ps)) :
    Calls Tryd.prog 3 #[uk, m.val ub up] w fun e w' => e = .returned (.bool true) ∧ Below w.heap.size w w' := by
  have hh := hm.h
  have hlk := fun uk F W h => long9_any ks uk F W h
  have hlong := fun F1 F2 W h1 h2 => long8_any m ub up W hh F1 F2 h1 h2
  have hcop := fun hlo F1 F2 W h1 h2 => copied8_any m ub up F1 F2 W hh hlo h1 h2
  have hsame := fun ub1 up1 F1 F2 F3 F4 W hn h1 h2 h3 h4 => same8_any m ub1 up1 ub up F1 F2 F3 F4 W hh h1 h2 h3 h4 hn
  obtain ⟨AK, ck, rfl, _, _⟩ := hk.slShape
  obtain ⟨AB, cb, rfl⟩ := hub.shape
  obtain ⟨AP, cpp, rfl, _, _⟩ := hup.slShape
  have hub := hub.weak (F' := fun b => b < w.heap.size) (fun b h _ => h)
  have hup := hup.weak (F' := fun b => b < w.heap.size) (fun b h _ => h)
  unfold Mg.val at hlong hcop hsame ⊢
  have hmn := len_mg hh (.slice AB m.b.length cb) (.slice AP m.ps.length cpp)
  have h1o := one_mg (m := m) (A := AB) (B := AP) (n := m.b.length) (c := cb) (k := m.ps.length) (d := cpp)
  have hrse := fun hlo hks W h1 h2 h3 => rseal_any ks m (.slice AK ks.length ck) (.slice none 0 0) (.slice AB m.b.length cb) (.slice AP m.ps.length cpp) F W hm hlo hks h1 h2 h3
  unfold Mg.val at hrse
  obtain ⟨l, hl⟩ : ∃ l, l = m.l (.slice AB m.b.length cb) (.slice AP m.ps.length cpp) := ⟨_, rfl⟩
  rw [← hl] at hlong hcop hsame hmn hrse ⊢
  have Hmn := hid hmn
  clear hl hmn h1o
  have hvb := Blk.new' w 27 l
  have hB : Below w.heap.size w (w.alloc (.cells l.toArray 27)) := (Below.refl _ _).alloc (Nat.le_refl _) _
  have hub := hub.below hB
  have hup := hup.below hB
  have hk := hk.below hB
  have hKS := hKS.below hB
  go_enter Tryd.func3, Tryd.ntmps3
  go_wp2_with (fail)
  refine (wakes9_any _ hKS).mono ?_
  rintro e w1 ⟨rfl, hB1⟩
  have hvb := hvb.below hB1
  have hub := hub.below hB1
  have hup := hup.below hB1
  have hk := hk.below hB1
  have hKS := hKS.below hB1
  have hB := hB.trans (hB1.mono hB.size)
  obtain ⟨g, hg⟩ : ∃ g, g = w.heap.size := ⟨_, rfl⟩
  rw [← hg] at hvb ⊢
  clear hg hB1
  have Hlong := hid hlong
  have Hcop := hid hcop
  have Hsame := hid hsame
  have Hrse := hid hrse
  clear hlong hcop hsame hrse
  go_wp2_with (fail)
  refine (hlk _ _ _ hk).mono ?_
  rintro e w2 ⟨rfl, hB2⟩
  have hvb := hvb.below hB2
  have hub := hub.below hB2
  have hup := hup.below hB2
  have hk := hk.below hB2
  have hKS := hKS.below hB2
  have hB := hB.trans (hB2.mono hB.size)
  clear hB2 hlk
  cases hlgk : longK ks with
  | true =>
    go_wp2
    go_ret
    exact ⟨rfl, hB⟩
  | false =>
    obtain ⟨hk16, hk200, hks⟩ := longK_bd hlgk
    clear hlgk
    go_wp2_with (refine wp_ldg 27 (.tmp 3) (by rfl) rfl rfl hvb.whole Tryd.underlying27 rfl (by rw [Hmn.out]; exact sizeM) ?_)
    refine (Hlong.out _ _ _ hub hup).mono ?_
    rintro e w3 ⟨rfl, hB3⟩
    have hvb := hvb.below hB3
    have hub := hub.below hB3
    have hup := hup.below hB3
    have hk := hk.below hB3
    have hKS := hKS.below hB3
    have hB := hB.trans (hB3.mono hB.size)
    clear hB3
    cases hlg : longB m with
    | true =>
      go_wp2
      go_ret
      exact ⟨rfl, hB⟩
    | false =>
      have hps : m.ps.length ≤ 1000000 := by have := (long_bd hlg).2.1; omega
      have hsm : MgSm m := by
        obtain ⟨h1, h2, h3⟩ := long_bd hlg
        exact ⟨by omega, by omega, fun t ht => by have := h3 t ht; omega⟩
      have hPl := len_by hh hlg
      have hse := fun (_ : True) ub up F1 F2 W (h0 : KS W) (h : Rd W F (.slice AK ks.length ck) (tx ks)) h1 h2 => seal9_any ks m (.slice AK ks.length ck) (.slice none 0 0) ub up F F1 F2 W h0 hm hsm hks h h1 h2
      have hop := fun v G W (h0 : KS W) (h : Rd W F (.slice AK ks.length ck) (tx ks)) (hv : Rd W G v (bys (slS ks m))) => open9_any ks (slS ks m) (.slice AK ks.length ck) (.slice none 0 0) v F G W h0 hks h hv (by unfold slS; rw [List.length_append, len_tag]; omega)
      have hos : errS ks m = 0 → opR ks (slS ks m) = .ok m := fun h => op_sl hh h
      have hrse : ∀ W, Rd W F (.slice AK ks.length ck) (tx ks) → Rd W (fun b => b < W.heap.size) (.slice AB m.b.length cb) (bys m.b) → Rd W (fun b => b < W.heap.size) (.slice AP m.ps.length cpp) (tx m.ps) → _ := fun W h1 h2 h3 => Hrse.out hlg hks W h1 h2 h3
      have hcop := fun (_ : True) F1 F2 W h1 h2 => Hcop.out hlg F1 F2 W h1 h2
      obtain ⟨E, hE⟩ : ∃ E, E = errS ks m := ⟨_, rfl⟩
      obtain ⟨X, hX⟩ : ∃ X, X = slS ks m := ⟨_, rfl⟩
      rw [← hE, ← hX] at hrse
      rw [← hE] at hos
      rw [← hX] at hop hos
      have hse : ∀ (_ : True) ub up F1 F2 W, KS W → Rd W F (.slice AK ks.length ck) (tx ks) → Rd W F1 ub (bys m.b) → Rd W F2 up (tx m.ps) → Calls Tryd.prog 9 #[.agg #[.slice AK ks.length ck, .slice none 0 0], .agg (m.l ub up).toArray] W fun e w' => ∃ v', e = .returned (.tuple #[v', .int .i64 (E : Int)]) ∧ NewB W w' v' (if E = 0 then X else []) := by
        intro _ ub up F1 F2 W h0 h1 h2 h3
        rw [hE, hX]
        exact hse trivial ub up F1 F2 W h0 h1 h2 h3
      have Hse := hid hse
      have Hop := hid hop
      have Hos := hid hos
      have Hrse2 := hid hrse
      clear Hcop Hrse hse hop hos hrse hE hX hlg hsm
      have Hcop := hid hcop
      clear hcop
      have hbK := bld9K AK ks.length ck
      go_wp2_with (first | refine wp_bld 33 [(0, .tmp 20)] rfl rfl [(0, .slice AK ks.length ck)] rfl hbK ?_ | refine wp_newst 33 5 (.tmp 21) rfl rfl rfl rfl rfl rfl zeroKeys (l := [.slice AK ks.length ck, .slice none 0 0]) rfl rfl sizeKeys one_keys (by simp [Act.put]) ?_; intro wq hkb hB4 hs4; refine wp_stop ?_)
      have hvb := hvb.below hB4
      have hub := hub.below hB4
      have hup := hup.below hB4
      have hk := hk.below hB4
      have hKS := hKS.below hB4
      have hBq := hB.trans (hB4.mono hB.size)
      obtain ⟨gk, hgk⟩ : ∃ g, g = w3.heap.size := ⟨_, rfl⟩
      rw [← hgk] at hkb ⊢
      clear hgk hB4 hs4 hbK hB
      have HV : Hid (∀ W, Ch nob wq W → W.rangeAt g 0 l) := fun W h => (hvb.below h.below).whole
      have HKB : Hid (∀ W, Ch nob wq W → W.rangeAt gk 0 [.slice AK ks.length ck, .slice none 0 0]) := fun W h => (hkb.below h.below).whole
      refine wp_go ?_
      go_upto_region 6 with (fail)
      refine wp_region_noPanic ?_
      refine wp_region_held_drew (S := Ch nob wq) (by kernel_rfl) ((Ch.refl _ _).drew) (fun hHeld => ?_)
      refine wpAnyH_take (i := 0) (oi := ⟨some 23, .load 33 (.tmp 5), _, _, _, none⟩) (v := _) rfl (by kernel_rfl) (by kernel_rfl) (by kernel_rfl) (fun _ _ _ h => h) (yieldsIf_load_mid (by rfl) 33 (.tmp 5) (by rfl) _ (0) (by rfl) _ _ (fun _ hs => HKB.out _ hs) Tryd.underlying33 rfl (sizeKeys)) (by assumption) ?_
      try simp only [Act.put, List.setIfInBounds_toArray, List.set_cons_zero, List.set_cons_succ]
      refine wpAnyH_take (i := 1) (oi := ⟨some 24, .load 27 (.tmp 3), _, _, _, none⟩) (v := _) rfl (by kernel_rfl) (by kernel_rfl) (by kernel_rfl) (fun _ _ _ h => h) (yieldsIf_load_mid (by rfl) 27 (.tmp 3) (by rfl) _ (0) (by rfl) _ _ (fun _ hs => HV.out _ hs) Tryd.underlying27 rfl (by rw [Hmn.out]; exact sizeM)) (by assumption) ?_
      try simp only [Act.put, List.setIfInBounds_toArray, List.set_cons_zero, List.set_cons_succ]
      refine wpAnyH_ready (rs := [2]) (by kernel_rfl) (by simp) ?_
      refine AllReadyH.cons (o := ⟨some 25, _, _, _, _, none⟩) rfl (fun K hK => ?_) AllReadyH.nil
      go_simp
      refine (Hcop.out trivial _ _ _ (hub.ext hHeld) (hup.ext hHeld)).mono ?_
      rintro e' w11 ⟨ub', up', rfl, hub', hup', hB11⟩
      obtain ⟨A3, c3, rfl⟩ := hub'.shape
      obtain ⟨A4, c4, rfl, _, _⟩ := hup'.slShape
      have hC11 := hHeld.belowR hB11
      have hse := Hse.out trivial (.slice A3 m.b.length c3) (.slice A4 m.ps.length c4) _ _ _ (hKS.below hC11.below) (hk.ext hC11) hub' hup'
      refine hK.out _ _ (hC11) (fun hHeld => ?_)
      clear hK K
      try simp only [Act.put, List.setIfInBounds_toArray, List.set_cons_zero, List.set_cons_succ]
      refine wpAnyH_ready (rs := [3]) (by kernel_rfl) (by simp) ?_
      refine AllReadyH.cons (o := ⟨some 26, _, _, _, _, none⟩) rfl (fun K hK => ?_) AllReadyH.nil
      go_simp
      refine hse.mono ?_
      rintro e' w12 ⟨v12, rfl, ho12, hB12⟩
      have hC12 := hC11.belowR hB12
      refine hK.out _ _ (hC12) (fun hHeld => ?_)
      clear hK K
      try simp only [Act.put, List.setIfInBounds_toArray, List.set_cons_zero, List.set_cons_succ]
      refine wpAnyH_take (i := 4) (oi := ⟨some 22, _, _, _, _, none⟩) (v := ?_) rfl (by kernel_rfl) (by kernel_rfl) (by kernel_rfl) (fun _ _ _ h => h) (Or.inl ⟨by rfl, ?_⟩) (by assumption) ?_
      rotate_left
      · intro w hSw; go_simp; try with_reducible rfl
      try simp only [Act.put, List.setIfInBounds_toArray, List.set_cons_zero, List.set_cons_succ]
      refine wpAnyH_take (i := 5) (oi := ⟨some 27, _, _, _, _, none⟩) (v := ?_) rfl (by kernel_rfl) (by kernel_rfl) (by kernel_rfl) (fun _ _ _ h => h) (Or.inl ⟨by rfl, ?_⟩) (by assumption) ?_
      rotate_left
      · intro w hSw; go_simp; try with_reducible rfl
      try simp only [Act.put, List.setIfInBounds_toArray, List.set_cons_zero, List.set_cons_succ]
      refine wpAnyH_take (i := 6) (oi := ⟨some 28, _, _, _, _, none⟩) (v := ?_) rfl (by kernel_rfl) (by kernel_rfl) (by kernel_rfl) (fun _ _ _ h => h) (Or.inl ⟨by rfl, ?_⟩) (by assumption) ?_
      rotate_left
      · intro w hSw; go_simp; try with_reducible rfl
      try simp only [Act.put, List.setIfInBounds_toArray, List.set_cons_zero, List.set_cons_succ]
      refine wpAnyH_take (i := 7) (oi := ⟨some 6, _, _, _, _, none⟩) (v := ?_) rfl (by kernel_rfl) (by kernel_rfl) (by kernel_rfl) (fun _ _ _ h => h) (Or.inl ⟨by rfl, ?_⟩) (by assumption) ?_
      rotate_left
      · intro w hSw; go_simp; try with_reducible rfl
      try simp only [Act.put, List.setIfInBounds_toArray, List.set_cons_zero, List.set_cons_succ]
      refine wpAnyH_take (i := 8) (oi := ⟨some 7, _, _, _, _, none⟩) (v := ?_) rfl (by kernel_rfl) (by kernel_rfl) (by kernel_rfl) (fun _ _ _ h => h) (Or.inl ⟨by rfl, ?_⟩) (by assumption) ?_
      rotate_left
      · intro w hSw; go_simp; try with_reducible rfl
      try simp only [Act.put, List.setIfInBounds_toArray, List.set_cons_zero, List.set_cons_succ]
      refine wpAnyH_done (by kernel_rfl) ?_ _
      refine NoPanic.normal ?_
      have hBc := hC12.below
      obtain ⟨P5, hP5⟩ : ∃ Q, Q = if E = 0 then X else [] := ⟨_, rfl⟩
      rw [← hP5] at ho12
      have HP5 := hid hP5
      clear hP5
      obtain ⟨A5, c5, rfl⟩ := own_shape ho12
      have hr5 := Rd.of_own ho12
      have hvb := hvb.below hBc
      have hkb := hkb.below hBc
      have hub := hub.below hBc
      have hup := hup.below hBc
      have hk := hk.below hBc
      have hKS := hKS.below hBc
      have hB := hBq.trans (hBc.mono hBq.size)
      clear hBc hC11 hC12 hB11 hB12 HV HKB hub' hup' ho12 hse hHeld hBq
      go_wp2_with (first | refine wp_ld 33 (.tmp 5) rfl rfl rfl hkb.whole Tryd.underlying33 rfl sizeKeys ?_ | refine wp_ld 27 (.tmp 3) rfl rfl rfl hvb.whole Tryd.underlying27 rfl (by rw [Hmn.out]; exact sizeM) ?_)
      refine (Hrse2.out _ hk (hub.weak (fun b hb _ => hb)) (hup.weak (fun b hb _ => hb))).mono ?_
      rintro e w6 ⟨v6, rfl, ho6, hB6⟩
      rw [← HP5.out] at ho6
      obtain ⟨A6, c6, rfl⟩ := own_shape ho6
      have hr6 := Rd.of_own ho6
      have hvb := hvb.below hB6
      have hkb := hkb.below hB6
      have hub := hub.below hB6
      have hup := hup.below hB6
      have hr5 := hr5.below hB6
      have hk := hk.below hB6
      have hKS := hKS.below hB6
      have hB := hB.trans (hB6.mono hB.size)
      clear hB6 ho6
      go_wp2_with (fail)
      refine (same_b _ _ P5 P5 _ _ _ hr5 hr6).mono ?_
      rintro e w7 ⟨rfl, hB7⟩
      rw [decide_eq_true rfl]
      have hvb := hvb.below hB7
      have hkb := hkb.below hB7
      have hub := hub.below hB7
      have hup := hup.below hB7
      have hr5 := hr5.below hB7
      have hk := hk.below hB7
      have hKS := hKS.below hB7
      have hB := hB.trans (hB7.mono hB.size)
      clear hB7 hr6
      have hne : ((E : Int) != (E : Int)) = false := by simp
      by_cases he : E = 0
      · subst he
        have hP5 : P5 = X := HP5.out
        have hos := Hos.out rfl
        subst hP5
        have ho := Hop.out _ _ _ hKS hk hr5
        rw [hos] at ho
        have Ho := hid ho
        clear ho hos hne
        go_wp2_with (refine wp_ld 33 (.tmp 5) rfl rfl rfl hkb.whole Tryd.underlying33 rfl sizeKeys ?_)
        refine Ho.out.mono ?_
        rintro e w9 ⟨⟨ub9, up9, rfl, hub9, hup9⟩, hB9⟩
        obtain ⟨A9, c9, rfl⟩ := hub9.shape
        obtain ⟨A10, c10, rfl, _, _⟩ := hup9.slShape
        unfold Mg.val
        have hvb := hvb.below hB9
        have hub := hub.below hB9
        have hup := hup.below hB9
        have hB := hB.trans (hB9.mono hB.size)
        have hm9 := len_mg hh (.slice A9 m.b.length c9) (.slice A10 m.ps.length c10)
        have h19 : ∀ v ∈ m.l (.slice A9 m.b.length c9) (.slice A10 m.ps.length c10), v.oneCell' = true := one_mg
        have hsa := Hsame.out (.slice A9 m.b.length c9) (.slice A10 m.ps.length c10)
        obtain ⟨l9, hl9⟩ : ∃ l, l = m.l (.slice A9 m.b.length c9) (.slice A10 m.ps.length c10) := ⟨_, rfl⟩
        rw [← hl9] at hm9 h19 hsa ⊢
        have Hm9 := hid hm9
        have H19 := hid h19
        have Hs9 := hid hsa
        clear hB9 hl9 hm9 h19 hsa hr5 Ho hkb
        go_wp2_with (refine wp_newst 27 10 (.tmp 50) rfl rfl rfl rfl rfl rfl zeroM (l := l9) rfl (by rw [Hm9.out]; exact len_zM) (by rw [Hm9.out]; exact sizeM) H19.out (by simp) ?_; intro w10 hx10 hB10 hs10; refine wp_stop ?_)
        have hvb := hvb.below hB10
        have hub := hub.below hB10
        have hup := hup.below hB10
        have hub9 := hub9.below hB10
        have hup9 := hup9.below hB10
        have hB := hB.trans (hB10.mono hB.size)
        clear hB10 hs10
        obtain ⟨gy, hgy⟩ : ∃ g, g = w9.heap.size := ⟨_, rfl⟩
        rw [← hgy] at hx10 ⊢
        clear hgy
        refine wp_go ?_
        go_wp2_with (first | (refine wp_ldg 27 (.tmp 10) (by rfl) rfl rfl hx10.whole Tryd.underlying27 rfl (by rw [Hm9.out]; exact sizeM) ?_) | (refine wp_ldg 27 (.tmp 3) (by rfl) rfl rfl hvb.whole Tryd.underlying27 rfl (by rw [Hmn.out]; exact sizeM) ?_))
        refine (Hs9.out _ _ _ _ _ hps hub9 hup9 hub hup).mono ?_
        rintro e w11 ⟨rfl, hB11⟩
        go_wp2
        go_ret
        exact ⟨rfl, hB.trans (hB11.mono hB.size)⟩
      · have hn0 : ((E : Int) != 0) = true := by rw [bne_iff_ne]; omega
        go_wp2
        go_ret
        exact ⟨rfl, hB⟩
end Go.Proofs.YtacjijhpbeegbaaDoor
