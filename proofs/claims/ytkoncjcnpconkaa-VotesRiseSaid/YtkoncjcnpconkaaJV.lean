/- JV: layer 13: contracts of votes: later, begin, write. -/
import Derived.Test.YtkoncjcnpconkaaJU
import Derived.Test.YtkoncjcnpconkaaJD
import Derived.Great.Walk
namespace Go.Proofs.Ytkoncjcnpconkaa
open Go.RowKit Go.V Go.Maps
theorem came13_t (m : Vt) (ub up : Value) (w : World) (h : m.k ≠ 0) : Calls Try.prog 44 #[m.val ub up] w fun e w' => e = .returned (.bool true) ∧ Below w.heap.size w w' := by
  have := came13_any m ub up w
  rwa [show (m.k != 0) = true from bne_iff_ne.2 h] at this
theorem came13_f (m : Vt) (ub up : Value) (w : World) (h : m.k = 0) : Calls Try.prog 44 #[m.val ub up] w fun e w' => e = .returned (.bool false) ∧ Below w.heap.size w w' := by
  have := came13_any m ub up w
  rwa [show (m.k != 0) = false from by rw [h]; rfl] at this
set_option maxRecDepth 100000 in
set_option maxHeartbeats 4000000 in
theorem later13_any (a m : Vt) (ua pa um pm : Value) (Fa Fm : Nat → Prop) (w : World) (hwa : in64w a.v ∧ in64w a.r) (hwm : in64w m.v ∧ in64w m.r) (hsm : VtSm m)
    (hua : Rd w Fa ua (bys a.b)) (hpa : Rd w Fa pa (tx a.ps)) (hum : Rd w Fm um (bys m.b)) (hpm : Rd w Fm pm (tx m.ps)) :
    Calls Try.prog 37 #[a.val ua pa, m.val um pm] w fun e w' => ∃ ub up, e = .returned ((lateF a m).val ub up) ∧ Rd w' (fun b => Fa b ∨ w.heap.size ≤ b) ub (bys (lateF a m).b) ∧ Rd w' (fun b => Fa b ∨ w.heap.size ≤ b) up (tx (lateF a m).ps) ∧ Below w.heap.size w w' := by
  obtain ⟨AA, ca, rfl⟩ := hua.shape
  obtain ⟨AQ, cq, rfl, _, _⟩ := hpa.slShape
  obtain ⟨AB, cb, rfl⟩ := hum.shape
  obtain ⟨AP, cpp, rfl, _, _⟩ := hpm.slShape
  have hca := fun W (h : a.k ≠ 0) => came13_t a (.slice AA a.b.length ca) (.slice AQ a.ps.length cq) W h
  have hcf := fun W (h : a.k = 0) => came13_f a (.slice AA a.b.length ca) (.slice AQ a.ps.length cq) W h
  have hrm := fun W => regOf13_any m (.slice AB m.b.length cb) (.slice AP m.ps.length cpp) W
  have hra := fun W => regOf13_any a (.slice AA a.b.length ca) (.slice AQ a.ps.length cq) W
  have hcp := fun W h1 h2 => copied13_any m (.slice AB m.b.length cb) (.slice AP m.ps.length cpp) Fm Fm W hsm h1 h2
  have hcmp : ∀ W, Calls Try.prog 48 #[.agg #[.int .i64 m.v, .int .i64 m.r], .agg #[.int .i64 a.v, .int .i64 a.r]] W fun e w' => e = .returned (.int .i64 (cmpK ⟨(m.v, m.r), lit64 hwm.1, lit64 hwm.2⟩ ⟨(a.v, a.r), lit64 hwa.1, lit64 hwa.2⟩)) ∧ GrowS W w' := fun W => cmp13_any ⟨(m.v, m.r), lit64 hwm.1, lit64 hwm.2⟩ ⟨(a.v, a.r), lit64 hwa.1, lit64 hwa.2⟩ W
  have hcl : cmpK ⟨(m.v, m.r), lit64 hwm.1, lit64 hwm.2⟩ ⟨(a.v, a.r), lit64 hwa.1, lit64 hwa.2⟩ ≤ 0 ↔ ¬ (a.v < m.v ∨ m.v = a.v ∧ a.r < m.r) := cmpK_le
  obtain ⟨c, hc⟩ : ∃ c, c = cmpK ⟨(m.v, m.r), lit64 hwm.1, lit64 hwm.2⟩ ⟨(a.v, a.r), lit64 hwa.1, lit64 hwa.2⟩ := ⟨_, rfl⟩
  rw [← hc] at hcmp hcl
  clear hc
  unfold Vt.val at hca hcf hrm hra hcp ⊢
  have hla := len_vt a (.slice AA a.b.length ca) (.slice AQ a.ps.length cq)
  have hoa : ∀ v ∈ a.l (.slice AA a.b.length ca) (.slice AQ a.ps.length cq), v.oneCell' = true := one_vt
  have hlm := len_vt m (.slice AB m.b.length cb) (.slice AP m.ps.length cpp)
  obtain ⟨la, ela⟩ : ∃ l, l = a.l (.slice AA a.b.length ca) (.slice AQ a.ps.length cq) := ⟨_, rfl⟩
  obtain ⟨lm, elm⟩ : ∃ l, l = m.l (.slice AB m.b.length cb) (.slice AP m.ps.length cpp) := ⟨_, rfl⟩
  rw [← ela] at hca hcf hra hla hoa ⊢
  rw [← elm] at hrm hcp hlm ⊢
  have Ela := hid ela
  have Hla := hid hla
  have Hlm := hid hlm
  have Hoa := hid hoa
  have Hrm := hid hrm
  have Hra := hid hra
  have Hcp := hid hcp
  have Hcmp := hid hcmp
  clear ela elm hla hlm hoa hrm hra hcp hcmp
  have hua := hua.weak (F' := fun b => Fa b ∧ b < w.heap.size) (fun b hb h => ⟨h, hb⟩)
  have hpa := hpa.weak (F' := fun b => Fa b ∧ b < w.heap.size) (fun b hb h => ⟨h, hb⟩)
  have hA := Blk.new' w 27 la
  have hM := Blk.new' (w.alloc (.cells la.toArray 27)) 27 lm
  have hZ := Blk.new' ((w.alloc (.cells la.toArray 27)).alloc (.cells lm.toArray 27)) 27 zVl
  have z1 : (w.alloc (.cells la.toArray 27)).heap.size = w.heap.size + 1 := by simp
  have z2 : ((w.alloc (.cells la.toArray 27)).alloc (.cells lm.toArray 27)).heap.size = w.heap.size + 1 + 1 := by simp
  rw [z1] at hM
  rw [z2] at hZ
  have hA := (hA.alloc (.cells lm.toArray 27)).alloc (.cells zVl.toArray 27)
  have hM := hM.alloc (.cells zVl.toArray 27)
  have hB : Below w.heap.size w (((w.alloc (.cells la.toArray 27)).alloc (.cells lm.toArray 27)).alloc (.cells zVl.toArray 27)) := (((Below.refl _ _).alloc (Nat.le_refl _) _).alloc (by simp) _).alloc (by simp; omega) _
  have hua := hua.below hB
  have hpa := hpa.below hB
  have hum := hum.below hB
  have hpm := hpm.below hB
  clear z1 z2
  go_enter Try.func37, Try.ntmps37
  go_wp2_with (refine wp_new 27 rfl rfl zeroV13 ?_; refine wp_stop ?_)
  obtain ⟨w3, hw3⟩ : ∃ w3, w3 = ((w.alloc (.cells la.toArray 27)).alloc (.cells lm.toArray 27)).alloc (.cells zVl.toArray 27) := ⟨_, rfl⟩
  rw [← hw3] at hA hM hZ hB hua hpa hum hpm ⊢
  have hBs := hB.size
  obtain ⟨g1, hg1⟩ : ∃ g, g = w.heap.size := ⟨_, rfl⟩
  obtain ⟨g2, hg2⟩ : ∃ g, g = w.heap.size + 1 := ⟨_, rfl⟩
  obtain ⟨g3, hg3⟩ : ∃ g, g = w.heap.size + 1 + 1 := ⟨_, rfl⟩
  rw [← hg3] at hZ ⊢
  rw [← hg2] at hM ⊢
  rw [← hg1] at hA ⊢
  have hl1 := hA.lt
  have hl2 := hM.lt
  have hl3 := hZ.lt
  have hw1 : w.heap.size ≤ g1 := by omega
  have hw2 : w.heap.size ≤ g2 := by omega
  have hw3' : w.heap.size ≤ g3 := by omega
  clear hw3 hg1 hg2 hg3
  have HA : Hid (∀ W, Ch nob w3 W → W.rangeAt g1 0 la) := fun W h => (hA.ch h (fun h => h)).whole
  have HM : Hid (∀ W, Ch nob w3 W → W.rangeAt g2 0 lm) := fun W h => (hM.ch h (fun h => h)).whole
  refine wp_go ?_
  go_upto_region 1 with (fail)
  by_cases hk : a.k = 0
  · have hnew : lateF a m = m := if_neg (fun h => h.1 hk)
    have Hcam := hid (fun W => hcf W hk)
    clear hca hcf hk hcl
    refine wp_region_noPanic ?_
    refine wp_region_held_drew (S := Ch nob w3) (by kernel_rfl) ((Ch.refl _ _).drew) (fun hHeld => ?_)
    refine wpAnyH_take (i := 0) (oi := ⟨some 5, .load 27 (.tmp 2), _, _, _, none⟩) (v := _) rfl (by kernel_rfl) (by kernel_rfl) (by kernel_rfl) (fun _ _ _ h => h) (yieldsIf_load_mid (by rfl) 27 (.tmp 2) (by rfl) _ (0) (by rfl) _ _ (fun _ hs => HA.out _ hs) Try.underlying27 rfl (by rw [Hla.out]; exact sizeVt)) (by assumption) ?_
    try simp only [Act.put, List.setIfInBounds_toArray, List.set_cons_zero, List.set_cons_succ]
    refine wpAnyH_ready (rs := [1]) (by kernel_rfl) (by simp) ?_
    refine AllReadyH.cons (o := ⟨some 6, _, _, _, _, none⟩) rfl (fun K hK => ?_) AllReadyH.nil
    go_simp
    refine (Hcam.out _).mono ?_
    rintro e' w11 ⟨rfl, hB11⟩
    have hC11 := hHeld.belowR hB11
    refine hK.out _ _ (hC11) (fun hHeld => ?_)
    clear hK K
    try simp only [Act.put, List.setIfInBounds_toArray, List.set_cons_zero, List.set_cons_succ]
    refine wpAnyH_take (i := 2) (oi := ⟨some 7, _, _, _, _, none⟩) (v := ?_) rfl (by kernel_rfl) (by kernel_rfl) (by kernel_rfl) (fun _ _ _ h => h) (Or.inl ⟨by rfl, ?_⟩) (by assumption) ?_
    rotate_left
    · intro w hSw; go_simp; try with_reducible rfl
    try simp only [Act.put, List.setIfInBounds_toArray, List.set_cons_zero, List.set_cons_succ]
    refine wpAnyH_take (i := 3) (oi := ⟨some 8, _, _, _, _, some (2, true)⟩) (v := undef) rfl (by kernel_rfl) (by kernel_rfl) (by kernel_rfl) (fun _ _ _ h => h) (Or.inr ⟨by rfl, rfl⟩) (by assumption) ?_
    try simp only [Act.put, List.setIfInBounds_toArray, List.set_cons_zero, List.set_cons_succ]
    refine wpAnyH_take (i := 4) (oi := ⟨some 9, _, _, _, _, some (2, true)⟩) (v := undef) rfl (by kernel_rfl) (by kernel_rfl) (by kernel_rfl) (fun _ _ _ h => h) (Or.inr ⟨by rfl, rfl⟩) (by assumption) ?_
    try simp only [Act.put, List.setIfInBounds_toArray, List.set_cons_zero, List.set_cons_succ]
    refine wpAnyH_take (i := 5) (oi := ⟨some 10, _, _, _, _, some (2, true)⟩) (v := undef) rfl (by kernel_rfl) (by kernel_rfl) (by kernel_rfl) (fun _ _ _ h => h) (Or.inr ⟨by rfl, rfl⟩) (by assumption) ?_
    try simp only [Act.put, List.setIfInBounds_toArray, List.set_cons_zero, List.set_cons_succ]
    refine wpAnyH_take (i := 6) (oi := ⟨some 11, _, _, _, _, some (2, true)⟩) (v := undef) rfl (by kernel_rfl) (by kernel_rfl) (by kernel_rfl) (fun _ _ _ h => h) (Or.inr ⟨by rfl, rfl⟩) (by assumption) ?_
    try simp only [Act.put, List.setIfInBounds_toArray, List.set_cons_zero, List.set_cons_succ]
    refine wpAnyH_take (i := 7) (oi := ⟨some 12, _, _, _, _, some (2, true)⟩) (v := undef) rfl (by kernel_rfl) (by kernel_rfl) (by kernel_rfl) (fun _ _ _ h => h) (Or.inr ⟨by rfl, rfl⟩) (by assumption) ?_
    try simp only [Act.put, List.setIfInBounds_toArray, List.set_cons_zero, List.set_cons_succ]
    refine wpAnyH_take (i := 8) (oi := ⟨some 13, _, _, _, _, some (2, true)⟩) (v := undef) rfl (by kernel_rfl) (by kernel_rfl) (by kernel_rfl) (fun _ _ _ h => h) (Or.inr ⟨by rfl, rfl⟩) (by assumption) ?_
    try simp only [Act.put, List.setIfInBounds_toArray, List.set_cons_zero, List.set_cons_succ]
    refine wpAnyH_take (i := 9) (oi := ⟨some 14, _, _, _, _, none⟩) (v := ?_) rfl (by kernel_rfl) (by kernel_rfl) (by kernel_rfl) (fun _ _ _ h => h) (Or.inl ⟨by rfl, ?_⟩) (by assumption) ?_
    rotate_left
    · intro w hSw; go_simp; try with_reducible rfl
    try simp only [Act.put, List.setIfInBounds_toArray, List.set_cons_zero, List.set_cons_succ]
    refine wpAnyH_done (by kernel_rfl) ?_ _
    refine NoPanic.normal ?_
    have hvM := hM.ch hC11 (fun h => h)
    have hvZ := hZ.ch hC11 (fun h => h)
    have hrm := hum.below hC11.below
    have hrq := hpm.below hC11.below
    have hBk := hB.trans (hC11.below.mono hB.size)
    have Hl := hid hnew
    clear HA HM Hrm Hra Hcmp hA hM hZ hua hpa hum hpm hHeld hnew
    go_wp2_with (first | refine wp_ld 27 (.tmp 3) rfl rfl rfl hvM.whole Try.underlying27 rfl (by rw [Hlm.out]; exact sizeVt) ?_)
    refine (Hcp.out _ hrm hrq).mono ?_
    rintro e w4 ⟨vb, vp, rfl, hr4, hr5, hB4⟩
    obtain ⟨A4, c4, rfl⟩ := hr4.shape
    obtain ⟨A5, c5, rfl, _, _⟩ := hr5.slShape
    have hzl := hvZ.lt
    have hvZ := hvZ.below hB4
    have hbs4 := hBk.size
    have hBk4 := hBk.trans (hB4.mono hbs4)
    have hll := len_vt m (.slice A4 m.b.length c4) (.slice A5 m.ps.length c5)
    go_wp2_with (first | (refine wp_st 27 (.tmp 4) (.tmp 17) rfl rfl rfl (f := 0) rfl (l := m.l (.slice A4 m.b.length c4) (.slice A5 m.ps.length c5)) rfl hvZ (by rw [hll, len_zVl]; omega) (by rw [hll]; exact sizeVt) one_vt ?_; intro w5 hz5 hG5; refine wp_stop ?_))
    rw [show zVl.take 0 ++ m.l (.slice A4 m.b.length c4) (.slice A5 m.ps.length c5) ++ zVl.drop (0 + (m.l (.slice A4 m.b.length c4) (.slice A5 m.ps.length c5)).length) = m.l (.slice A4 m.b.length c4) (.slice A5 m.ps.length c5) from by rw [hll]; simp [zVl, zs8]] at hz5
    have hr45 := hr4.keep (F' := fun b => Fa b ∨ w.heap.size ≤ b) (fun b hb hF => ⟨.inr (Nat.le_trans hbs4 hF), hG5.block _ hb (by intro h; injection h with h; have h' : _ ≤ b := hF; omega)⟩)
    have hr55 := hr5.keep (F' := fun b => Fa b ∨ w.heap.size ≤ b) (fun b hb hF => ⟨.inr (Nat.le_trans hbs4 hF), hG5.block _ hb (by intro h; injection h with h; have h' : _ ≤ b := hF; omega)⟩)
    have hB5 := hBk4.grown hG5 hBk4.size (fun k hk => by injection hk with hk; omega)
    refine wp_go ?_
    go_wp2
    refine ret_cell rfl rfl hz5.whole Try.underlying27 rfl (by rw [hll]; exact sizeVt) rfl ?_
    rw [Hl.out]
    exact ⟨_, _, rfl, hr45, hr55, hB5⟩
  · have Hcam := hid (fun W => hca W hk)
    by_cases hc0 : c ≤ 0
    · have hkeep : lateF a m = a := if_pos ⟨hk, hcl.1 hc0⟩
      clear hca hcf hk hcl
      refine wp_region_noPanic ?_
      refine wp_region_held_drew (S := Ch nob w3) (by kernel_rfl) ((Ch.refl _ _).drew) (fun hHeld => ?_)
      refine wpAnyH_take (i := 0) (oi := ⟨some 5, .load 27 (.tmp 2), _, _, _, none⟩) (v := _) rfl (by kernel_rfl) (by kernel_rfl) (by kernel_rfl) (fun _ _ _ h => h) (yieldsIf_load_mid (by rfl) 27 (.tmp 2) (by rfl) _ (0) (by rfl) _ _ (fun _ hs => HA.out _ hs) Try.underlying27 rfl (by rw [Hla.out]; exact sizeVt)) (by assumption) ?_
      try simp only [Act.put, List.setIfInBounds_toArray, List.set_cons_zero, List.set_cons_succ]
      refine wpAnyH_ready (rs := [1]) (by kernel_rfl) (by simp) ?_
      refine AllReadyH.cons (o := ⟨some 6, _, _, _, _, none⟩) rfl (fun K hK => ?_) AllReadyH.nil
      go_simp
      refine (Hcam.out _).mono ?_
      rintro e' w11 ⟨rfl, hB11⟩
      have hC11 := hHeld.belowR hB11
      refine hK.out _ _ (hC11) (fun hHeld => ?_)
      clear hK K
      try simp only [Act.put, List.setIfInBounds_toArray, List.set_cons_zero, List.set_cons_succ]
      refine wpAnyH_take (i := 2) (oi := ⟨some 7, _, _, _, _, none⟩) (v := ?_) rfl (by kernel_rfl) (by kernel_rfl) (by kernel_rfl) (fun _ _ _ h => h) (Or.inl ⟨by rfl, ?_⟩) (by assumption) ?_
      rotate_left
      · intro w hSw; go_simp; try with_reducible rfl
      try simp only [Act.put, List.setIfInBounds_toArray, List.set_cons_zero, List.set_cons_succ]
      refine wpAnyH_take (i := 3) (oi := ⟨some 8, .load 27 (.tmp 3), _, _, _, some (2, true)⟩) (v := _) rfl (by kernel_rfl) (by kernel_rfl) (by kernel_rfl) (fun _ _ _ h => h) (yieldsIf_load_mid (by rfl) 27 (.tmp 3) (by rfl) _ (0) (by rfl) _ _ (fun _ hs => HM.out _ hs) Try.underlying27 rfl (by rw [Hlm.out]; exact sizeVt)) (by assumption) ?_
      try simp only [Act.put, List.setIfInBounds_toArray, List.set_cons_zero, List.set_cons_succ]
      refine wpAnyH_take (i := 5) (oi := ⟨some 10, .load 27 (.tmp 2), _, _, _, some (2, true)⟩) (v := _) rfl (by kernel_rfl) (by kernel_rfl) (by kernel_rfl) (fun _ _ _ h => h) (yieldsIf_load_mid (by rfl) 27 (.tmp 2) (by rfl) _ (0) (by rfl) _ _ (fun _ hs => HA.out _ hs) Try.underlying27 rfl (by rw [Hla.out]; exact sizeVt)) (by assumption) ?_
      try simp only [Act.put, List.setIfInBounds_toArray, List.set_cons_zero, List.set_cons_succ]
      refine wpAnyH_ready (rs := [4]) (by kernel_rfl) (by simp) ?_
      refine AllReadyH.cons (o := ⟨some 9, _, _, _, _, some (2, true)⟩) rfl (fun K hK => ?_) AllReadyH.nil
      go_simp
      refine (Hrm.out _).mono ?_
      rintro e' w14 ⟨rfl, hB14⟩
      have hC14 := hHeld.belowR hB14
      refine hK.out _ _ (hC14) (fun hHeld => ?_)
      clear hK K
      try simp only [Act.put, List.setIfInBounds_toArray, List.set_cons_zero, List.set_cons_succ]
      refine wpAnyH_ready (rs := [6]) (by kernel_rfl) (by simp) ?_
      refine AllReadyH.cons (o := ⟨some 11, _, _, _, _, some (2, true)⟩) rfl (fun K hK => ?_) AllReadyH.nil
      go_simp
      refine (Hra.out _).mono ?_
      rintro e' w16 ⟨rfl, hB16⟩
      have hC16 := hHeld.belowR hB16
      refine hK.out _ _ (hC16) (fun hHeld => ?_)
      clear hK K
      try simp only [Act.put, List.setIfInBounds_toArray, List.set_cons_zero, List.set_cons_succ]
      refine wpAnyH_ready (rs := [7]) (by kernel_rfl) (by simp) ?_
      refine AllReadyH.cons (o := ⟨some 12, _, _, _, _, some (2, true)⟩) rfl (fun K hK => ?_) AllReadyH.nil
      go_simp
      refine (Hcmp.out _).mono ?_
      rintro e' w17 ⟨rfl, hq17⟩
      have hC17 := hHeld.belowR (grown_below hq17)
      refine hK.out _ _ (hC17) (fun hHeld => ?_)
      clear hK K
      try simp only [Act.put, List.setIfInBounds_toArray, List.set_cons_zero, List.set_cons_succ]
      refine wpAnyH_take (i := 8) (oi := ⟨some 13, _, _, _, _, some (2, true)⟩) (v := ?_) rfl (by kernel_rfl) (by kernel_rfl) (by kernel_rfl) (fun _ _ _ h => h) (Or.inl ⟨by rfl, ?_⟩) (by assumption) ?_
      rotate_left
      · intro w hSw; go_simp; try with_reducible rfl
      try simp only [Act.put, List.setIfInBounds_toArray, List.set_cons_zero, List.set_cons_succ]
      refine wpAnyH_take (i := 9) (oi := ⟨some 14, _, _, _, _, none⟩) (v := ?_) rfl (by kernel_rfl) (by kernel_rfl) (by kernel_rfl) (fun _ _ _ h => h) (Or.inl ⟨by rfl, ?_⟩) (by assumption) ?_
      rotate_left
      · intro w hSw; go_simp; try with_reducible rfl
      try simp only [Act.put, List.setIfInBounds_toArray, List.set_cons_zero, List.set_cons_succ]
      refine wpAnyH_done (by kernel_rfl) ?_ _
      refine NoPanic.normal ?_
      have hvA := hA.ch hC17 (fun h => h)
      have hvZ := hZ.ch hC17 (fun h => h)
      have hra := hua.below hC17.below
      have hrp := hpa.below hC17.below
      have hBk := hB.trans (hC17.below.mono hB.size)
      have Hl := hid hkeep
      clear HA HM Hcam Hrm Hra Hcmp Hcp hA hM hZ hua hpa hum hpm hC11 hC14 hC16 hC17 hHeld hkeep
      go_wp2_with (first | refine wp_ld 27 (.tmp 2) rfl rfl rfl hvA.whole Try.underlying27 rfl (by rw [Hla.out]; exact sizeVt) ?_ | (refine wp_st 27 (.tmp 4) (.tmp 15) rfl rfl rfl (f := 0) rfl (l := la) rfl hvZ (by rw [Hla.out, len_zVl]; omega) (by rw [Hla.out]; exact sizeVt) Hoa.out ?_; intro w5 hz5 hG5; refine wp_stop ?_))
      rw [show zVl.take 0 ++ la ++ zVl.drop (0 + la.length) = la from by rw [Hla.out]; simp [zVl, zs8]] at hz5
      have hra5 := hra.keep (F' := fun b => Fa b ∨ w.heap.size ≤ b) (fun b hb hF => ⟨.inl hF.1, hG5.block _ hb (by intro h; injection h with h; have := hF.2; omega)⟩)
      have hrp5 := hrp.keep (F' := fun b => Fa b ∨ w.heap.size ≤ b) (fun b hb hF => ⟨.inl hF.1, hG5.block _ hb (by intro h; injection h with h; have := hF.2; omega)⟩)
      have hB5 := hBk.grown hG5 hBk.size (fun k hk => by injection hk with hk; omega)
      refine wp_go ?_
      go_wp2
      refine ret_cell rfl rfl hz5.whole Try.underlying27 rfl (by rw [Hla.out]; exact sizeVt) rfl ?_
      rw [Hl.out]
      exact ⟨_, _, by rw [Ela.out], hra5, hrp5, hB5⟩
    · have hnew : lateF a m = m := if_neg (fun h => hc0 (hcl.2 h.2))
      clear hca hcf hk hcl
      refine wp_region_noPanic ?_
      refine wp_region_held_drew (S := Ch nob w3) (by kernel_rfl) ((Ch.refl _ _).drew) (fun hHeld => ?_)
      refine wpAnyH_take (i := 0) (oi := ⟨some 5, .load 27 (.tmp 2), _, _, _, none⟩) (v := _) rfl (by kernel_rfl) (by kernel_rfl) (by kernel_rfl) (fun _ _ _ h => h) (yieldsIf_load_mid (by rfl) 27 (.tmp 2) (by rfl) _ (0) (by rfl) _ _ (fun _ hs => HA.out _ hs) Try.underlying27 rfl (by rw [Hla.out]; exact sizeVt)) (by assumption) ?_
      try simp only [Act.put, List.setIfInBounds_toArray, List.set_cons_zero, List.set_cons_succ]
      refine wpAnyH_ready (rs := [1]) (by kernel_rfl) (by simp) ?_
      refine AllReadyH.cons (o := ⟨some 6, _, _, _, _, none⟩) rfl (fun K hK => ?_) AllReadyH.nil
      go_simp
      refine (Hcam.out _).mono ?_
      rintro e' w11 ⟨rfl, hB11⟩
      have hC11 := hHeld.belowR hB11
      refine hK.out _ _ (hC11) (fun hHeld => ?_)
      clear hK K
      try simp only [Act.put, List.setIfInBounds_toArray, List.set_cons_zero, List.set_cons_succ]
      refine wpAnyH_take (i := 2) (oi := ⟨some 7, _, _, _, _, none⟩) (v := ?_) rfl (by kernel_rfl) (by kernel_rfl) (by kernel_rfl) (fun _ _ _ h => h) (Or.inl ⟨by rfl, ?_⟩) (by assumption) ?_
      rotate_left
      · intro w hSw; go_simp; try with_reducible rfl
      try simp only [Act.put, List.setIfInBounds_toArray, List.set_cons_zero, List.set_cons_succ]
      refine wpAnyH_take (i := 3) (oi := ⟨some 8, .load 27 (.tmp 3), _, _, _, some (2, true)⟩) (v := _) rfl (by kernel_rfl) (by kernel_rfl) (by kernel_rfl) (fun _ _ _ h => h) (yieldsIf_load_mid (by rfl) 27 (.tmp 3) (by rfl) _ (0) (by rfl) _ _ (fun _ hs => HM.out _ hs) Try.underlying27 rfl (by rw [Hlm.out]; exact sizeVt)) (by assumption) ?_
      try simp only [Act.put, List.setIfInBounds_toArray, List.set_cons_zero, List.set_cons_succ]
      refine wpAnyH_take (i := 5) (oi := ⟨some 10, .load 27 (.tmp 2), _, _, _, some (2, true)⟩) (v := _) rfl (by kernel_rfl) (by kernel_rfl) (by kernel_rfl) (fun _ _ _ h => h) (yieldsIf_load_mid (by rfl) 27 (.tmp 2) (by rfl) _ (0) (by rfl) _ _ (fun _ hs => HA.out _ hs) Try.underlying27 rfl (by rw [Hla.out]; exact sizeVt)) (by assumption) ?_
      try simp only [Act.put, List.setIfInBounds_toArray, List.set_cons_zero, List.set_cons_succ]
      refine wpAnyH_ready (rs := [4]) (by kernel_rfl) (by simp) ?_
      refine AllReadyH.cons (o := ⟨some 9, _, _, _, _, some (2, true)⟩) rfl (fun K hK => ?_) AllReadyH.nil
      go_simp
      refine (Hrm.out _).mono ?_
      rintro e' w14 ⟨rfl, hB14⟩
      have hC14 := hHeld.belowR hB14
      refine hK.out _ _ (hC14) (fun hHeld => ?_)
      clear hK K
      try simp only [Act.put, List.setIfInBounds_toArray, List.set_cons_zero, List.set_cons_succ]
      refine wpAnyH_ready (rs := [6]) (by kernel_rfl) (by simp) ?_
      refine AllReadyH.cons (o := ⟨some 11, _, _, _, _, some (2, true)⟩) rfl (fun K hK => ?_) AllReadyH.nil
      go_simp
      refine (Hra.out _).mono ?_
      rintro e' w16 ⟨rfl, hB16⟩
      have hC16 := hHeld.belowR hB16
      refine hK.out _ _ (hC16) (fun hHeld => ?_)
      clear hK K
      try simp only [Act.put, List.setIfInBounds_toArray, List.set_cons_zero, List.set_cons_succ]
      refine wpAnyH_ready (rs := [7]) (by kernel_rfl) (by simp) ?_
      refine AllReadyH.cons (o := ⟨some 12, _, _, _, _, some (2, true)⟩) rfl (fun K hK => ?_) AllReadyH.nil
      go_simp
      refine (Hcmp.out _).mono ?_
      rintro e' w17 ⟨rfl, hq17⟩
      have hC17 := hHeld.belowR (grown_below hq17)
      refine hK.out _ _ (hC17) (fun hHeld => ?_)
      clear hK K
      try simp only [Act.put, List.setIfInBounds_toArray, List.set_cons_zero, List.set_cons_succ]
      refine wpAnyH_take (i := 8) (oi := ⟨some 13, _, _, _, _, some (2, true)⟩) (v := ?_) rfl (by kernel_rfl) (by kernel_rfl) (by kernel_rfl) (fun _ _ _ h => h) (Or.inl ⟨by rfl, ?_⟩) (by assumption) ?_
      rotate_left
      · intro w hSw; go_simp; try with_reducible rfl
      try simp only [Act.put, List.setIfInBounds_toArray, List.set_cons_zero, List.set_cons_succ]
      refine wpAnyH_take (i := 9) (oi := ⟨some 14, _, _, _, _, none⟩) (v := ?_) rfl (by kernel_rfl) (by kernel_rfl) (by kernel_rfl) (fun _ _ _ h => h) (Or.inl ⟨by rfl, ?_⟩) (by assumption) ?_
      rotate_left
      · intro w hSw; go_simp; try with_reducible rfl
      try simp only [Act.put, List.setIfInBounds_toArray, List.set_cons_zero, List.set_cons_succ]
      refine wpAnyH_done (by kernel_rfl) ?_ _
      refine NoPanic.normal ?_
      have hvM := hM.ch hC17 (fun h => h)
      have hvZ := hZ.ch hC17 (fun h => h)
      have hrm := hum.below hC17.below
      have hrq := hpm.below hC17.below
      have hBk := hB.trans (hC17.below.mono hB.size)
      have Hl := hid hnew
      clear HA HM Hrm Hra Hcmp hA hM hZ hua hpa hum hpm hHeld hnew
      go_wp2_with (first | refine wp_ld 27 (.tmp 3) rfl rfl rfl hvM.whole Try.underlying27 rfl (by rw [Hlm.out]; exact sizeVt) ?_)
      refine (Hcp.out _ hrm hrq).mono ?_
      rintro e w4 ⟨vb, vp, rfl, hr4, hr5, hB4⟩
      obtain ⟨A4, c4, rfl⟩ := hr4.shape
      obtain ⟨A5, c5, rfl, _, _⟩ := hr5.slShape
      have hzl := hvZ.lt
      have hvZ := hvZ.below hB4
      have hbs4 := hBk.size
      have hBk4 := hBk.trans (hB4.mono hbs4)
      have hll := len_vt m (.slice A4 m.b.length c4) (.slice A5 m.ps.length c5)
      go_wp2_with (first | (refine wp_st 27 (.tmp 4) (.tmp 17) rfl rfl rfl (f := 0) rfl (l := m.l (.slice A4 m.b.length c4) (.slice A5 m.ps.length c5)) rfl hvZ (by rw [hll, len_zVl]; omega) (by rw [hll]; exact sizeVt) one_vt ?_; intro w5 hz5 hG5; refine wp_stop ?_))
      rw [show zVl.take 0 ++ m.l (.slice A4 m.b.length c4) (.slice A5 m.ps.length c5) ++ zVl.drop (0 + (m.l (.slice A4 m.b.length c4) (.slice A5 m.ps.length c5)).length) = m.l (.slice A4 m.b.length c4) (.slice A5 m.ps.length c5) from by rw [hll]; simp [zVl, zs8]] at hz5
      have hr45 := hr4.keep (F' := fun b => Fa b ∨ w.heap.size ≤ b) (fun b hb hF => ⟨.inr (Nat.le_trans hbs4 hF), hG5.block _ hb (by intro h; injection h with h; have h' : _ ≤ b := hF; omega)⟩)
      have hr55 := hr5.keep (F' := fun b => Fa b ∨ w.heap.size ≤ b) (fun b hb hF => ⟨.inr (Nat.le_trans hbs4 hF), hG5.block _ hb (by intro h; injection h with h; have h' : _ ≤ b := hF; omega)⟩)
      have hB5 := hBk4.grown hG5 hBk4.size (fun k hk => by injection hk with hk; omega)
      refine wp_go ?_
      go_wp2
      refine ret_cell rfl rfl hz5.whole Try.underlying27 rfl (by rw [hll]; exact sizeVt) rfl ?_
      rw [Hl.out]
      exact ⟨_, _, rfl, hr45, hr55, hB5⟩
/-! begin: of a slot that is past nothing is kept -/
theorem sizeBk : (Try.prog.info? 66).map (·.size) = some 78 := by kernel_rfl
theorem sizeIk : (Try.prog.info? 3).map (·.size) = some 1 := by kernel_rfl
/-- a book's cells -/
def bkL (e : List Value) (s : Int) (b : Nat) (a : List Value) : List Value := e ++ (.int .i64 s :: .map (some b) :: a)
theorem bk_at38 {e a : List Value} {s : Int} {b : Nat} (he : e.length = 38) : (bkL e s b a)[38]? = some (.int .i64 s) := by
  unfold bkL
  rw [List.getElem?_append_right (by omega), he]; rfl
theorem bk_at39 {e a : List Value} {s : Int} {b : Nat} (he : e.length = 38) : (bkL e s b a)[39]? = some (.map (some b)) := by
  unfold bkL
  rw [List.getElem?_append_right (by omega), he]; rfl
theorem bk_len {e a : List Value} {s : Int} {b : Nat} (he : e.length = 38) (ha : a.length = 38) : (bkL e s b a).length = 78 := by
  unfold bkL
  rw [List.length_append, List.length_cons, List.length_cons, he, ha]
theorem bk_set38 {e a : List Value} {s n : Int} {b : Nat} (he : e.length = 38) : (bkL e s b a).set 38 (.int .i64 n) = bkL e n b a := by
  unfold bkL
  rw [List.set_append_right _ _ (by omega), he]; rfl
theorem bk_acc40 {e a a' : List Value} {s : Int} {b : Nat} (he : e.length = 38) (ha : a.length = 38) (ha' : a'.length = 38) : (bkL e s b a).take 40 ++ a' ++ (bkL e s b a).drop (40 + a'.length) = bkL e s b a' := by
  have h1 : (bkL e s b a).take 40 = e ++ [.int .i64 s, .map (some b)] := by
    unfold bkL
    rw [List.take_append, he, List.take_of_length_le (by omega)]; rfl
  rw [h1, List.drop_of_length_le (by rw [bk_len he ha]; omega), List.append_nil, List.append_assoc]
  rfl
theorem bk_ent0 {e e' a : List Value} {s : Int} {b : Nat} (he : e.length = 38) (he' : e'.length = 38) : (bkL e s b a).take 0 ++ e' ++ (bkL e s b a).drop (0 + e'.length) = bkL e' s b a := by
  unfold bkL
  rw [List.take_zero, List.nil_append, Nat.zero_add, List.drop_append, he', List.drop_of_length_le (by omega), he]
  rfl
theorem bk_atA {e a : List Value} {s : Int} {b : Nat} (he : e.length = 38) : ∀ j v, a[j]? = some v → (bkL e s b a)[40 + j]? = some v := by
  intro j v h
  unfold bkL
  rw [List.getElem?_append_right (by omega), he, show 40 + j - 38 = j + 1 + 1 from by omega, List.getElem?_cons_succ, List.getElem?_cons_succ]
  exact h
theorem bk_atE {e a : List Value} {s : Int} {b : Nat} : ∀ j v, e[j]? = some v → (bkL e s b a)[0 + j]? = some v := by
  intro j v h
  unfold bkL
  rw [Nat.zero_add, List.getElem?_append_left (List.getElem?_eq_some_iff.1 h).1]
  exact h
set_option maxRecDepth 100000 in
set_option maxHeartbeats 4000000 in
theorem begin13_any (p b : Nat) (e a : List Value) (s n : Int) (L : List (K2 × Vt)) (F : Nat → Prop) (w : World) (he : e.length = 38) (ha : a.length = 38)
    (hB : Blk w p 66 (bkL e s b a)) (hM : MS wrM w F b L) (hpb : p ≠ b) (hFb : ¬ F b) (hFp : ¬ F p) :
    Calls Try.prog 38 #[.pointer (some ⟨p, 0, none⟩), .int .i64 n] w fun e' w' => e' = .returned (.tuple #[]) ∧ MS wrM w' F b [] ∧ Blk w' p 66 (bkL e n b zVl) ∧ Ch (fun x => x = p ∨ x = b) w w' := by
  obtain ⟨F1, hF1⟩ : ∃ F1 : Nat → Prop, F1 = fun x => F x ∧ x < w.heap.size := ⟨_, rfl⟩
  have hM := hM.weak (F' := F1) (fun x hx h => by rw [hF1]; exact ⟨h, hx⟩)
  have hFr : ¬ F1 w.heap.size := by rw [hF1]; exact fun e => Nat.lt_irrefl _ e.2
  have hF1b : ¬ F1 b := by rw [hF1]; exact fun e => hFb e.1
  have hF1p : ¬ F1 p := by rw [hF1]; exact fun e => hFp e.1
  have hpl := hB.lt
  have hbl := hM.lt
  have hF1l : ∀ x, F1 x → F x ∧ x < w.heap.size := fun x h => by rw [hF1] at h; exact h
  clear hF1
  have hcl := bk_len (s := s) (b := b) he ha
  have h39 := bk_at39 (a := a) (s := s) (b := b) he
  have hC0 := Ch.refl (fun x => x = p ∨ x = b) w
  have Hs38 := hid (fun (a' : List Value) => bk_set38 (a := a') (s := s) (n := n) (b := b) he)
  have Hac := hid (bk_acc40 (s := s) (b := b) he ha len_zVl)
  have Hzl := hid (bk_len (s := s) (b := b) he len_zVl)
  obtain ⟨cs, hcs⟩ : ∃ cs, cs = bkL e s b a := ⟨_, rfl⟩
  rw [← hcs] at hB hcl h39 Hac
  clear hcs
  have c39 := hB.cellAt 39 _ h39
  go_enter Try.func38, Try.ntmps38
  go_wp2_with (first | (at_range; refine wp_rangeS 64 27 (.tmp 8) rfl rfl Try.underlying64 rfl hM ?_; intro w2 hR2 hG2 hs2) | go_in)
  try go_frame
  obtain ⟨it, hit⟩ : ∃ it, it = w.heap.size := ⟨_, rfl⟩
  rw [← hit] at hR2 ⊢
  have hFit : ¬ F1 it := fun e => by have := (hF1l _ e).2; omega
  have hpt : p ≠ it := by omega
  have hbt : b ≠ it := by omega
  have hB2 := hB.keep (hG2.block p hB.lt (fun e => by cases e))
  have hz2 : it < w2.heap.size := by omega
  have hC2 := hC0.grow hG2 (fun k hk => by cases hk)
  have hitw : w.heap.size ≤ it := by omega
  clear hit hs2 hG2 hM c39 hB hC0
  go_loopw [4] (fun _ wr => ∃ rs : List (K2 × Vt), RS wrM wr F1 b it [] rs ∧ Blk wr p 66 cs ∧ it < wr.heap.size ∧ Ch (fun x => x = p ∨ x = b) w wr) (fun _ wr => wr.rangeLeft b it)
  case atStart => exact ⟨_, hR2, hB2, hz2, hC2⟩
  case round =>
    clear hR2 hB2 hz2 hC2
    obtain ⟨rs, hR, hBr, hzr, hCr⟩ := hrel
    go_wp2_with (first | (at_next; refine wp_nextS (.tmp 9) rfl rfl rfl hR hFit ?_ ?_) | go_in)
    · intro hrs
      subst hrs
      have hMr := hR.owns
      go_wp2_with (first | refine wp_bld 27 [] rfl rfl [] rfl bldV13 ?_ | (refine wp_st 27 (.tmp 24) (.tmp 21) rfl rfl rfl (f := 40) rfl (l := zVl) rfl hBr (by rw [hcl, len_zVl]; omega) (by rw [len_zVl]; exact sizeVt) one_zVl ?_; intro w5 hB5 hG5; refine wp_stop ?_) | go_in)
      rw [Hac.out] at hB5
      have hM5 := hMr.keep (hG5.block b hMr.lt (fun e => by injection e with e; exact hpb e.symm)) (fun x hx h => ⟨h, hG5.block x hx (fun e => by injection e with e; subst e; exact hF1p h)⟩)
      have hC5 := hCr.grow hG5 (fun k hk => .inl (.inl (by injection hk with hk; exact hk.symm)))
      clear hMr hR hBr hCr hG5
      refine wp_go ?_
      go_wp2_with (first | (refine wp_st1 3 (.tmp 26) (.tmp 22) rfl rfl rfl (f := 38) rfl (v := .int .i64 n) rfl hB5 (by rw [Hzl.out]; omega) sizeIk rfl rfl ?_; intro w6 hB6 hG6; refine wp_stop ?_) | go_in)
      rw [Hs38.out] at hB6
      have hM6 := hM5.keep (F' := F) (hG6.block b hM5.lt (fun e => by injection e with e; exact hpb e.symm)) (fun x hx h => ⟨(hF1l x h).1, hG6.block x hx (fun e => by injection e with e; subst e; exact hF1p h)⟩)
      have hC6 := hC5.grow hG6 (fun k hk => .inl (.inl (by injection hk with hk; exact hk.symm)))
      clear hM5 hB5 hC5 hG6
      refine wp_go ?_
      go_wp2
      refine Go.Great.bodyPost_end0 rfl rfl ?_
      exact ⟨rfl, hM6, hB6, hC6⟩
    · intro f mv rs' v3 w3 hpp hR3 hv hlt3 hG3 hs3 hen
      replace hen : (Instr.entry (.pointer (some ⟨it, 0, none⟩))).run Try.prog w3 = .ok (.tuple #[.agg #[.int .i64 f.1.1, .int .i64 f.1.2], v3]) w3 := hen
      go_wp2_with (first | (refine wp_newst 78 4 (.tmp 13) rfl rfl rfl rfl rfl rfl zeroRg (l := [.int .i64 f.1.1, .int .i64 f.1.2]) rfl rfl sizeRg (by simp [Value.oneCell']) (by simp) ?_; intro w4 hq4 hB4 hs4; refine wp_stop ?_) | go_in)
      have hfin : ∀ q ∈ rs', q.1 ≠ f := by
        have hu := hR3.owns.uq
        rw [List.singleton_append, List.map_cons, List.nodup_cons] at hu
        exact fun q hq e => hu.1 (List.mem_map.2 ⟨q, hq, e⟩)
      have hBq := (hBr.keep (hG3.block p hBr.lt (fun e => by injection e with e; exact hpt e))).below hB4
      have hzq : it < w3.heap.size := by omega
      have hqp : p ≠ w3.heap.size := by have := hBr.lt; omega
      have hqb : b ≠ w3.heap.size := by have := hR3.owns.lt; omega
      have hRq := hR3.keep (hB4.block b hR3.owns.lt) (hB4.block it hzq) (fun x hx h => ⟨h, hB4.block x hx⟩)
      have hlq : w4.rangeLeft b it < wr.rangeLeft b it := by rw [hRq.2]; exact hlt3
      have hC4 := (hCr.grow hG3 (fun k hk => .inr (by injection hk with hk; omega))).belowR hB4
      obtain ⟨q, hq⟩ : ∃ q, q = w3.heap.size := ⟨_, rfl⟩
      rw [← hq] at hq4 hqp hqb ⊢
      have hzw : it < w4.heap.size := by have := hB4.size; omega
      have hRw : RS wrM w4.drew F1 b it [(f, mv)] rs' := (RS.keep (w' := w4.drew) hRq.1 rfl rfl (fun x _ h => ⟨h, rfl⟩)).1
      clear hq hen hR3 hRq hB4 hG3 hs3 hs4 hBr hR hlt3 hpp hv hCr
      refine wp_go ?_
      go_wp2
      obtain ⟨wq, hwq⟩ : ∃ wq, wq = w4 := ⟨_, rfl⟩
      rw [← hwq] at hq4 hBq hRw hlq hzw hC4 ⊢
      clear hwq
      have HC : Hid (∀ W, Ch (fun x => x = b) wq W → W.cell? ⟨p, 39, none⟩ = some (.map (some b))) := hid fun W hc => (hBq.ch hc hpb).cellAt 39 _ h39
      have HK : Hid (∀ W, Ch (fun x => x = b) wq W → W.rangeAt q 0 [Value.int .i64 f.1.1, .int .i64 f.1.2]) := hid fun W hc => (hq4.ch hc (fun e => hqb e.symm)).whole
      refine wp_region_noPanic ?_
      refine wp_region_held_drew (S := Ch (fun x => x = b) wq) (by kernel_rfl) ((Ch.refl _ _).drew) (fun hHeld => ?_)
      refine wpAnyH_take (i := 0) (oi := ⟨some 14, _, _, _, _, none⟩) (v := ?_) rfl (by kernel_rfl) (by kernel_rfl) (by kernel_rfl) (fun _ _ _ h => h) (Or.inl ⟨by rfl, ?_⟩) (by assumption) ?_
      rotate_left
      · intro w hSw; go_simp; try with_reducible rfl
      try simp only [Act.put, List.setIfInBounds_toArray, List.set_cons_zero, List.set_cons_succ]
      refine wpAnyH_take (i := 1) (oi := ⟨some 15, _, _, _, _, none⟩) (v := ?_) rfl (by kernel_rfl) (by kernel_rfl) (by kernel_rfl) (fun _ _ _ h => h) (Or.inl ⟨by rfl, ?_⟩) (by assumption) ?_
      rotate_left
      · intro w hSw; go_simp; try with_reducible rfl
      try simp only [Act.put, List.setIfInBounds_toArray, List.set_cons_zero, List.set_cons_succ]
      refine wpAnyH_take (i := 2) (oi := ⟨some 16, _, _, _, _, none⟩) (v := ?_) rfl (by kernel_rfl) (by kernel_rfl) (by kernel_rfl) (fun _ _ _ h => h) (Or.inl ⟨by rfl, ?_⟩) (by assumption) ?_
      rotate_left
      · intro w hSw; go_simp; try with_reducible rfl
      try simp only [Act.put, List.setIfInBounds_toArray, List.set_cons_zero, List.set_cons_succ]
      refine wpAnyH_take (i := 3) (oi := ⟨some 17, _, _, _, _, none⟩) (v := ?_) rfl (by kernel_rfl) (by kernel_rfl) (by kernel_rfl) (fun _ _ _ h => h) (Or.inl ⟨by rfl, ?_⟩) (by assumption) ?_
      rotate_left
      · intro w hSw; have hcw := HC.out w hSw; go_simp; try with_reducible rfl
      try simp only [Act.put, List.setIfInBounds_toArray, List.set_cons_zero, List.set_cons_succ]
      refine wpAnyH_take (i := 4) (oi := ⟨some 18, .load 78 (.tmp 4), _, _, _, none⟩) (v := _) rfl (by kernel_rfl) (by kernel_rfl) (by kernel_rfl) (fun _ _ _ h => h) (yieldsIf_load_mid (by rfl) 78 (.tmp 4) (by rfl) _ (0) (by rfl) _ _ (fun _ hs => HK.out _ hs) Try.underlying78 rfl (sizeRg)) (by assumption) ?_
      try simp only [Act.put, List.setIfInBounds_toArray, List.set_cons_zero, List.set_cons_succ]
      refine wpAnyH_ready (rs := [5]) (by kernel_rfl) (by simp) ?_
      refine AllReadyH.cons (o := ⟨none, _, _, _, _, none⟩) rfl (fun K hK => ?_) AllReadyH.nil
      refine step_delRS 64 27 (.tmp 17) (.tmp 18) (by rfl) (by rfl) Try.underlying64 (by rfl) hRw (s := f) (by rfl) hF1b ?_
      intro w6 hR6 hle6 hG6 hs6
      refine hK.out _ _ (hHeld.grow hG6 (fun k hk => .inl (by injection hk with hk; exact hk.symm))) (fun hHeld => ?_)
      clear hK K
      try simp only [Act.put]
      refine wpAnyH_done (by kernel_rfl) ?_ _
      refine NoPanic.normal ?_
      have hrel2 : ∃ rs : List (K2 × Vt), RS wrM w6 F1 b it [] rs ∧ Blk w6 p 66 cs ∧ it < w6.heap.size ∧ Ch (fun x => x = p ∨ x = b) w w6 := ⟨rs', by
        have e1 : woS [(f, mv)] f = [] := by simp [woS]
        rw [e1, woS_none hfin] at hR6
        exact hR6, hBq.ch hHeld hpb, by have := hHeld.size; omega, hC4.trans (hHeld.weaken (fun k _ h => .inr h))⟩
      have Hrel := hid hrel2
      have Hle := hid (Nat.lt_of_le_of_lt hle6 hlq)
      clear hrel2 hR6 hle6 hlq hG6 hRw hC4
      go_wp2
      go_roundw
      case rel => exact Hrel.out
      case measure => exact Hle.out
end Go.Proofs.Ytkoncjcnpconkaa
