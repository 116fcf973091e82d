/- JW: layer 13: contract of votes: write. -/
import Derived.Test.YtkoncjcnpconkaaJV
namespace Go.V
/-- what was written, and m with it, unless something was in its regency -/
def wrF (L : List (K2 × Vt)) (s : K2) (m : Vt) : List (K2 × Vt) := match findS L s with
  | none => (s, m) :: woS L s
  | some _ => L
theorem wrF_none {L : List (K2 × Vt)} {s : K2} {m : Vt} (h : findS L s = none) : wrF L s m = (s, m) :: woS L s := by unfold wrF; rw [h]
theorem wrF_some {L : List (K2 × Vt)} {s : K2} {m d : Vt} (h : findS L s = some d) : wrF L s m = L := by unfold wrF; rw [h]
end Go.V
namespace Go.Proofs.Ytkoncjcnpconkaa
open Go.RowKit Go.V Go.Maps
set_option maxRecDepth 100000 in
set_option maxHeartbeats 8000000 in
theorem write13_any (p b : Nat) (e a : List Value) (S : Int) (L : List (K2 × Vt)) (F Fm : Nat → Prop) (m : Vt) (s : K2) (um pm : Value) (w : World) (he : e.length = 38) (_ha : a.length = 38)
    (hB : Blk w p 66 (bkL e S b a)) (hM : MS wrM w F b L) (hLn : L.length < maxLen) (hpb : p ≠ b) (hFb : ¬ F b) (hs1 : m.v = s.1.1) (hs2 : m.r = s.1.2) (hsm : VtSm m)
    (hum : Rd w Fm um (bys m.b)) (hpm : Rd w Fm pm (tx m.ps)) (hFm : ¬ Fm b) :
    Calls Try.prog 39 #[.pointer (some ⟨p, 0, none⟩), m.val um pm] w fun e' w' => e' = .returned (.tuple #[]) ∧ ∃ F', MS wrM w' F' b (wrF L s m) ∧ Ch (fun x => x = b) w w' ∧ (∀ x, F' x → F x ∨ w.heap.size ≤ x) := by
  obtain ⟨AB, cb, rfl⟩ := hum.shape
  obtain ⟨AP, cpp, rfl, _, _⟩ := hpm.slShape
  have hrg := fun W => regOf13_any m (.slice AB m.b.length cb) (.slice AP m.ps.length cpp) W
  rw [hs1, hs2] at hrg
  have hcp := fun W h1 h2 => copied13_any m (.slice AB m.b.length cb) (.slice AP m.ps.length cpp) Fm Fm W hsm h1 h2
  unfold Vt.val at hrg hcp ⊢
  have hlm := len_vt m (.slice AB m.b.length cb) (.slice AP m.ps.length cpp)
  obtain ⟨lm, elm⟩ : ∃ l, l = m.l (.slice AB m.b.length cb) (.slice AP m.ps.length cpp) := ⟨_, rfl⟩
  rw [← elm] at hrg hcp hlm ⊢
  have Hlm := hid hlm
  have Hrg := hid hrg
  have Hcp := hid hcp
  clear elm hlm hrg hcp hs1 hs2 hsm
  have h39 := bk_at39 (a := a) (s := S) (b := b) he
  have hbl := hM.lt
  have hFmb : ∀ x, Fm x → ¬ (x = b) := fun x h e => by subst e; exact hFm h
  have hFb2 : ¬ (F b ∨ w.heap.size ≤ b) := by rintro (h | h); exact hFb h; omega
  obtain ⟨cs, hcs⟩ : ∃ cs, cs = bkL e S b a := ⟨_, rfl⟩
  rw [← hcs] at hB h39
  clear hcs he _ha
  have hV := Blk.new' w 27 lm
  have hB0 : Below w.heap.size w (w.alloc (.cells lm.toArray 27)) := (Below.refl _ _).alloc (Nat.le_refl _) _
  have hB := hB.below hB0
  have hM := hM.below hB0
  have hum := hum.below hB0
  have hpm := hpm.below hB0
  go_enter Try.func39, Try.ntmps39
  go_wp2_with (first | refine wp_ld 27 (.tmp 3) rfl rfl rfl hV.whole Try.underlying27 rfl (by rw [Hlm.out]; exact sizeVt) ?_)
  obtain ⟨w0, hw0⟩ : ∃ w0, w0 = w.alloc (.cells lm.toArray 27) := ⟨_, rfl⟩
  rw [← hw0] at hV hB hM hum hpm hB0 ⊢
  clear hw0
  obtain ⟨gv, hgv⟩ : ∃ g, g = w.heap.size := ⟨_, rfl⟩
  rw [← hgv] at hV ⊢
  have hvb' : gv ≠ b := by omega
  have hvw : w.heap.size ≤ gv := by omega
  clear hgv
  refine (Hrg.out _).mono ?_
  rintro e' w1 ⟨rfl, hB1⟩
  have hV := hV.below hB1
  have hB := hB.below hB1
  have hM := hM.below hB1
  have hum := hum.below hB1
  have hpm := hpm.below hB1
  have hB1 := hB0.trans (hB1.mono hB0.size)
  go_wp2_with (first | (refine wp_newst 78 4 (.tmp 8) rfl rfl rfl rfl rfl rfl zeroRg (l := [.int .i64 s.1.1, .int .i64 s.1.2]) rfl rfl sizeRg (by simp [Value.oneCell']) (by simp) ?_; intro w2 hK0 hB2 hs2; refine wp_stop ?_) | go_in)
  have hvl := hV.lt
  have hV := hV.below hB2
  have hB := hB.below hB2
  have hM := hM.below hB2
  have hum := hum.below hB2
  have hpm := hpm.below hB2
  have hkw := hB1.size
  have hB2 := hB1.trans (hB2.mono hB1.size)
  obtain ⟨gk, hgk⟩ : ∃ g, g = w1.heap.size := ⟨_, rfl⟩
  rw [← hgk] at hK0 ⊢
  have hkb : gk ≠ b := by omega
  clear hgk hs2 hB0 hB1 Hrg hkw
  have hws := hB2.size
  have hC : Ch (fun x => x = b) w w2 := (Ch.refl _ _).belowR hB2
  refine wp_go ?_
  go_upto_region 2 with (fail)
  have HC : Hid (∀ W, Ch nob w2 W → W.cell? ⟨p, 39, none⟩ = some (.map (some b))) := hid fun W hc => (hB.ch hc (fun h => h)).cellAt 39 _ h39
  have HK : Hid (∀ W, Ch nob w2 W → W.rangeAt gk 0 [Value.int .i64 s.1.1, .int .i64 s.1.2]) := hid fun W hc => (hK0.ch hc (fun h => h)).whole
  have HV := True.intro
  cases hq : findS L s with
  | none =>
    refine wp_region_noPanic ?_
    refine wp_region_held_drew (S := Ch nob w2) (by kernel_rfl) ((Ch.refl _ _).drew) (fun hHeld => ?_)
    refine wpAnyH_take (i := 0) (oi := ⟨some 10, _, _, _, _, none⟩) (v := ?_) rfl (by kernel_rfl) (by kernel_rfl) (by kernel_rfl) (fun _ _ _ h => h) (Or.inl ⟨by rfl, ?_⟩) (by assumption) ?_
    rotate_left
    · intro w hSw; go_simp; try with_reducible rfl
    try simp only [Act.put, List.setIfInBounds_toArray, List.set_cons_zero, List.set_cons_succ]
    refine wpAnyH_take (i := 1) (oi := ⟨some 11, _, _, _, _, none⟩) (v := ?_) rfl (by kernel_rfl) (by kernel_rfl) (by kernel_rfl) (fun _ _ _ h => h) (Or.inl ⟨by rfl, ?_⟩) (by assumption) ?_
    rotate_left
    · intro w hSw; go_simp; try with_reducible rfl
    try simp only [Act.put, List.setIfInBounds_toArray, List.set_cons_zero, List.set_cons_succ]
    refine wpAnyH_take (i := 2) (oi := ⟨some 12, _, _, _, _, none⟩) (v := ?_) rfl (by kernel_rfl) (by kernel_rfl) (by kernel_rfl) (fun _ _ _ h => h) (Or.inl ⟨by rfl, ?_⟩) (by assumption) ?_
    rotate_left
    · intro w hSw; go_simp; try with_reducible rfl
    try simp only [Act.put, List.setIfInBounds_toArray, List.set_cons_zero, List.set_cons_succ]
    refine wpAnyH_take (i := 3) (oi := ⟨some 13, _, _, _, _, none⟩) (v := ?_) rfl (by kernel_rfl) (by kernel_rfl) (by kernel_rfl) (fun _ _ _ h => h) (Or.inl ⟨by rfl, ?_⟩) (by assumption) ?_
    rotate_left
    · intro w hSw; have hcw := HC.out w hSw; go_simp; try with_reducible rfl
    try simp only [Act.put, List.setIfInBounds_toArray, List.set_cons_zero, List.set_cons_succ]
    refine wpAnyH_take (i := 4) (oi := ⟨some 14, .load 78 (.tmp 4), _, _, _, none⟩) (v := _) rfl (by kernel_rfl) (by kernel_rfl) (by kernel_rfl) (fun _ _ _ h => h) (yieldsIf_load_mid (by rfl) 78 (.tmp 4) (by rfl) _ (0) (by rfl) _ _ (fun _ hs => HK.out _ hs) Try.underlying78 rfl (sizeRg)) (by assumption) ?_
    try simp only [Act.put, List.setIfInBounds_toArray, List.set_cons_zero, List.set_cons_succ]
    refine wpAnyH_ready (rs := [5, 9]) (by kernel_rfl) (by simp) ?_
    refine AllReadyH.cons (o := ⟨some 15, .lookup _ _ _ _, _, _, _, none⟩) rfl (fun K hK => ?_) ?_
    · refine step_lookS 64 27 (.tmp 13) (.tmp 14) true (by rfl) (by rfl) Try.underlying64 (zVote _) (by rfl) (hM.below hHeld.below) (s := s) (by rfl) ?_ ?_
      rotate_left
      · intro d v h; rw [hq] at h; cases h
      intro _
      rw [if_pos rfl]
      refine hK.out _ _ (hHeld) (fun hHeld => ?_)
      clear hK K
      try simp only [Act.put, List.setIfInBounds_toArray, List.set_cons_zero, List.set_cons_succ]
      refine wpAnyH_take (i := 6) (oi := ⟨some 9, _, _, _, _, none⟩) (v := ?_) rfl (by kernel_rfl) (by kernel_rfl) (by kernel_rfl) (fun _ _ _ h => h) (Or.inl ⟨by rfl, ?_⟩) (by assumption) ?_
      rotate_left
      · intro w hSw; go_simp; try with_reducible rfl
      try simp only [Act.put, List.setIfInBounds_toArray, List.set_cons_zero, List.set_cons_succ]
      refine wpAnyH_take (i := 7) (oi := ⟨some 16, _, _, _, _, none⟩) (v := ?_) rfl (by kernel_rfl) (by kernel_rfl) (by kernel_rfl) (fun _ _ _ h => h) (Or.inl ⟨by rfl, ?_⟩) (by assumption) ?_
      rotate_left
      · intro w hSw; go_simp; try with_reducible rfl
      try simp only [Act.put, List.setIfInBounds_toArray, List.set_cons_zero, List.set_cons_succ]
      refine wpAnyH_take (i := 8) (oi := ⟨some 17, _, _, _, _, none⟩) (v := ?_) rfl (by kernel_rfl) (by kernel_rfl) (by kernel_rfl) (fun _ _ _ h => h) (Or.inl ⟨by rfl, ?_⟩) (by assumption) ?_
      rotate_left
      · intro w hSw; go_simp; try with_reducible rfl
      try simp only [Act.put, List.setIfInBounds_toArray, List.set_cons_zero, List.set_cons_succ]
      refine wpAnyH_ready (rs := [9]) (by kernel_rfl) (by simp) ?_
      refine AllReadyH.cons (o := ⟨some 5, .alloc _, _, _, _, none⟩) rfl (fun K hK => ?_) AllReadyH.nil
      refine step_new 27 (by rfl) (by rfl) zeroV13 ?_
      intro g5 w5 hg5 hgl5 hb5 hB5
      have hg5w : w2.heap.size ≤ g5 := Nat.le_trans hHeld.size hg5
      refine hK.out _ _ (hHeld.belowR hB5) (fun hHeld => ?_)
      clear hK K
      try simp only [Act.put, List.setIfInBounds_toArray, List.set_cons_zero, List.set_cons_succ]
      refine wpAnyH_ready (rs := [10]) (by kernel_rfl) (by simp) ?_
      refine AllReadyH.cons (o := ⟨none, _, _, _, _, none⟩) rfl (fun K hK => ?_) AllReadyH.nil
      refine step_st 27 (.tmp 5) (.tmp 16) (by rfl) (by rfl) (by rfl) (f := 0) (by rfl) (l := zV.l (.slice none 0 0) (.slice none 0 0)) (by rfl) hb5 (by rw [len_vt, len_zVl]; omega) (by rw [len_vt]; exact sizeVt) one_vt ?_
      intro w10 hb10 hG10
      refine hK.out _ _ (hHeld.grow hG10 (fun k hk => .inr (by injection hk with hk; omega))) (fun hHeld => ?_)
      clear hK K
      try simp only [Act.put, List.setIfInBounds_toArray, List.set_cons_zero, List.set_cons_succ]
      refine wpAnyH_take (i := 11) (oi := ⟨some 6, _, _, _, _, none⟩) (v := ?_) rfl (by kernel_rfl) (by kernel_rfl) (by kernel_rfl) (fun _ _ _ h => h) (Or.inl ⟨by rfl, ?_⟩) (by assumption) ?_
      rotate_left
      · intro w hSw; go_simp; try with_reducible rfl
      try simp only [Act.put, List.setIfInBounds_toArray, List.set_cons_zero, List.set_cons_succ]
      refine wpAnyH_done (by kernel_rfl) ?_ _
      refine NoPanic.normal ?_
      have hC2 := hC.trans (hHeld.weaken (fun _ _ h => h.elim))
      have hM3 := hM.below hHeld.below
      have hB3 := hB.below hHeld.below
      have hV3 := hV.below hHeld.below
      have hK3 := hK0.below hHeld.below
      have hum3 := hum.below hHeld.below
      have hpm3 := hpm.below hHeld.below
      have hws3 := Nat.le_trans hws hHeld.size
      have Hq := hid hq
      clear HC HK HV hHeld hq hM hB hV hK0 hum hpm hG10 hb10 hb5 hB5
      go_wp2
      go_upto_region 4 with (fail)
      obtain ⟨w3, hw3⟩ : ∃ w3, w3 = w10 := ⟨_, rfl⟩
      rw [← hw3] at hC2 hM3 hB3 hV3 hK3 hum3 hpm3 hws3 ⊢
      clear hw3
      have HC : Hid (∀ W, Ch (fun x => x = b) w3 W → W.cell? ⟨p, 39, none⟩ = some (.map (some b))) := hid fun W hc => (hB3.ch hc hpb).cellAt 39 _ h39
      have HK : Hid (∀ W, Ch (fun x => x = b) w3 W → W.rangeAt gk 0 [Value.int .i64 s.1.1, .int .i64 s.1.2]) := hid fun W hc => (hK3.ch hc hkb).whole
      have HV : Hid (∀ W, Ch (fun x => x = b) w3 W → W.rangeAt gv 0 lm) := hid fun W hc => (hV3.ch hc hvb').whole
      refine wp_region_noPanic ?_
      refine wp_region_held_drew (S := Ch (fun x => x = b) w3) (by kernel_rfl) ((Ch.refl _ _).drew) (fun hHeld => ?_)
      refine wpAnyH_take (i := 0) (oi := ⟨some 20, _, _, _, _, none⟩) (v := ?_) rfl (by kernel_rfl) (by kernel_rfl) (by kernel_rfl) (fun _ _ _ h => h) (Or.inl ⟨by rfl, ?_⟩) (by assumption) ?_
      rotate_left
      · intro w hSw; go_simp; try with_reducible rfl
      try simp only [Act.put, List.setIfInBounds_toArray, List.set_cons_zero, List.set_cons_succ]
      refine wpAnyH_take (i := 1) (oi := ⟨some 21, _, _, _, _, none⟩) (v := ?_) rfl (by kernel_rfl) (by kernel_rfl) (by kernel_rfl) (fun _ _ _ h => h) (Or.inl ⟨by rfl, ?_⟩) (by assumption) ?_
      rotate_left
      · intro w hSw; go_simp; try with_reducible rfl
      try simp only [Act.put, List.setIfInBounds_toArray, List.set_cons_zero, List.set_cons_succ]
      refine wpAnyH_take (i := 2) (oi := ⟨some 22, _, _, _, _, none⟩) (v := ?_) rfl (by kernel_rfl) (by kernel_rfl) (by kernel_rfl) (fun _ _ _ h => h) (Or.inl ⟨by rfl, ?_⟩) (by assumption) ?_
      rotate_left
      · intro w hSw; go_simp; try with_reducible rfl
      try simp only [Act.put, List.setIfInBounds_toArray, List.set_cons_zero, List.set_cons_succ]
      refine wpAnyH_take (i := 3) (oi := ⟨some 23, _, _, _, _, none⟩) (v := ?_) rfl (by kernel_rfl) (by kernel_rfl) (by kernel_rfl) (fun _ _ _ h => h) (Or.inl ⟨by rfl, ?_⟩) (by assumption) ?_
      rotate_left
      · intro w hSw; have hcw := HC.out w hSw; go_simp; try with_reducible rfl
      try simp only [Act.put, List.setIfInBounds_toArray, List.set_cons_zero, List.set_cons_succ]
      refine wpAnyH_take (i := 4) (oi := ⟨some 24, .load 78 (.tmp 4), _, _, _, none⟩) (v := _) rfl (by kernel_rfl) (by kernel_rfl) (by kernel_rfl) (fun _ _ _ h => h) (yieldsIf_load_mid (by rfl) 78 (.tmp 4) (by rfl) _ (0) (by rfl) _ _ (fun _ hs => HK.out _ hs) Try.underlying78 rfl (sizeRg)) (by assumption) ?_
      try simp only [Act.put, List.setIfInBounds_toArray, List.set_cons_zero, List.set_cons_succ]
      refine wpAnyH_take (i := 5) (oi := ⟨some 25, .load 27 (.tmp 3), _, _, _, none⟩) (v := _) rfl (by kernel_rfl) (by kernel_rfl) (by kernel_rfl) (fun _ _ _ h => h) (yieldsIf_load_mid (by rfl) 27 (.tmp 3) (by rfl) _ (0) (by rfl) _ _ (fun _ hs => HV.out _ hs) Try.underlying27 rfl (by rw [Hlm.out]; exact sizeVt)) (by assumption) ?_
      try simp only [Act.put, List.setIfInBounds_toArray, List.set_cons_zero, List.set_cons_succ]
      refine wpAnyH_ready (rs := [6]) (by kernel_rfl) (by simp) ?_
      refine AllReadyH.cons (o := ⟨some 26, _, _, _, _, none⟩) rfl (fun K hK => ?_) AllReadyH.nil
      go_simp
      refine (Hcp.out _ (hum3.ch hHeld hFmb) (hpm3.ch hHeld hFmb)).mono ?_
      rintro e' w6 ⟨vb, vp, rfl, hr6, hr7, hB6⟩
      have hs6 := hHeld.size
      have hC6 := hHeld.belowR hB6
      have hM6 := ((hM3.keep (w' := w3.drew) rfl (fun x _ h => ⟨h, rfl⟩)).below hB6).weak (F' := fun x => F x ∨ w.heap.size ≤ x) (fun x _ h => .inl h)
      have hv6 : wrM.V w6 (fun x => F x ∨ w.heap.size ≤ x) (m.val vb vp) m := ⟨_, rfl, vt_mk (hr6.weak (fun x _ h => .inr (Nat.le_trans (Nat.le_trans hws3 hs6) h))) (hr7.weak (fun x _ h => .inr (Nat.le_trans (Nat.le_trans hws3 hs6) h)))⟩
      refine hK.out _ _ (hC6) (fun hHeld => ?_)
      clear hK K
      try simp only [Act.put, List.setIfInBounds_toArray, List.set_cons_zero, List.set_cons_succ]
      refine wpAnyH_ready (rs := [7]) (by kernel_rfl) (by simp) ?_
      refine AllReadyH.cons (o := ⟨none, _, _, _, _, none⟩) rfl (fun K hK => ?_) AllReadyH.nil
      refine step_putS 64 27 (.tmp 23) (.tmp 24) (.tmp 26) (by rfl) (by rfl) Try.underlying64 (by rfl) hM6 hLn (s := s) (by rfl) (by rfl) hv6 hFb2 ?_
      intro w7 hM7 hG7 hs7
      refine hK.out _ _ (hC6.grow hG7 (fun k hk => .inl (by injection hk with hk; exact hk.symm))) (fun hHeld => ?_)
      clear hK K
      try simp only [Act.put]
      refine wpAnyH_done (by kernel_rfl) ?_ _
      refine NoPanic.normal ?_
      have hC7 := hC2.trans hHeld
      clear HC HK HV hHeld hM3 hB3 hV3 hK3 hum3 hpm3 hM6 hG7 hr6 hr7 hv6 hB6 hC6
      go_wp2
      refine Go.Great.bodyPost_end0 rfl rfl ?_
      exact ⟨rfl, fun x => F x ∨ w.heap.size ≤ x, by rw [wrF_none Hq.out]; exact hM7, hC7, fun x h => h⟩
    refine AllReadyH.cons (o := ⟨some 5, .alloc _, _, _, _, none⟩) rfl (fun K hK => ?_) AllReadyH.nil
    refine step_new 27 (by rfl) (by rfl) zeroV13 ?_
    intro g5 w5 hg5 hgl5 hb5 hB5
    have hg5w : w2.heap.size ≤ g5 := Nat.le_trans hHeld.size hg5
    refine hK.out _ _ (hHeld.belowR hB5) (fun hHeld => ?_)
    clear hK K
    try simp only [Act.put, List.setIfInBounds_toArray, List.set_cons_zero, List.set_cons_succ]
    refine wpAnyH_ready (rs := [5]) (by kernel_rfl) (by simp) ?_
    refine AllReadyH.cons (o := ⟨some 15, .lookup _ _ _ _, _, _, _, none⟩) rfl (fun K hK => ?_) AllReadyH.nil
    refine step_lookS 64 27 (.tmp 13) (.tmp 14) true (by rfl) (by rfl) Try.underlying64 (zVote _) (by rfl) (hM.below hHeld.below) (s := s) (by rfl) ?_ ?_
    rotate_left
    · intro d v h; rw [hq] at h; cases h
    intro _
    rw [if_pos rfl]
    refine hK.out _ _ (hHeld) (fun hHeld => ?_)
    clear hK K
    try simp only [Act.put, List.setIfInBounds_toArray, List.set_cons_zero, List.set_cons_succ]
    refine wpAnyH_take (i := 6) (oi := ⟨some 9, _, _, _, _, none⟩) (v := ?_) rfl (by kernel_rfl) (by kernel_rfl) (by kernel_rfl) (fun _ _ _ h => h) (Or.inl ⟨by rfl, ?_⟩) (by assumption) ?_
    rotate_left
    · intro w hSw; go_simp; try with_reducible rfl
    try simp only [Act.put, List.setIfInBounds_toArray, List.set_cons_zero, List.set_cons_succ]
    refine wpAnyH_take (i := 7) (oi := ⟨some 16, _, _, _, _, none⟩) (v := ?_) rfl (by kernel_rfl) (by kernel_rfl) (by kernel_rfl) (fun _ _ _ h => h) (Or.inl ⟨by rfl, ?_⟩) (by assumption) ?_
    rotate_left
    · intro w hSw; go_simp; try with_reducible rfl
    try simp only [Act.put, List.setIfInBounds_toArray, List.set_cons_zero, List.set_cons_succ]
    refine wpAnyH_take (i := 8) (oi := ⟨some 17, _, _, _, _, none⟩) (v := ?_) rfl (by kernel_rfl) (by kernel_rfl) (by kernel_rfl) (fun _ _ _ h => h) (Or.inl ⟨by rfl, ?_⟩) (by assumption) ?_
    rotate_left
    · intro w hSw; go_simp; try with_reducible rfl
    try simp only [Act.put, List.setIfInBounds_toArray, List.set_cons_zero, List.set_cons_succ]
    refine wpAnyH_ready (rs := [10]) (by kernel_rfl) (by simp) ?_
    refine AllReadyH.cons (o := ⟨none, _, _, _, _, none⟩) rfl (fun K hK => ?_) AllReadyH.nil
    refine step_st 27 (.tmp 5) (.tmp 16) (by rfl) (by rfl) (by rfl) (f := 0) (by rfl) (l := zV.l (.slice none 0 0) (.slice none 0 0)) (by rfl) hb5 (by rw [len_vt, len_zVl]; omega) (by rw [len_vt]; exact sizeVt) one_vt ?_
    intro w10 hb10 hG10
    refine hK.out _ _ (hHeld.grow hG10 (fun k hk => .inr (by injection hk with hk; omega))) (fun hHeld => ?_)
    clear hK K
    try simp only [Act.put, List.setIfInBounds_toArray, List.set_cons_zero, List.set_cons_succ]
    refine wpAnyH_take (i := 11) (oi := ⟨some 6, _, _, _, _, none⟩) (v := ?_) rfl (by kernel_rfl) (by kernel_rfl) (by kernel_rfl) (fun _ _ _ h => h) (Or.inl ⟨by rfl, ?_⟩) (by assumption) ?_
    rotate_left
    · intro w hSw; go_simp; try with_reducible rfl
    try simp only [Act.put, List.setIfInBounds_toArray, List.set_cons_zero, List.set_cons_succ]
    refine wpAnyH_done (by kernel_rfl) ?_ _
    refine NoPanic.normal ?_
    have hC2 := hC.trans (hHeld.weaken (fun _ _ h => h.elim))
    have hM3 := hM.below hHeld.below
    have hB3 := hB.below hHeld.below
    have hV3 := hV.below hHeld.below
    have hK3 := hK0.below hHeld.below
    have hum3 := hum.below hHeld.below
    have hpm3 := hpm.below hHeld.below
    have hws3 := Nat.le_trans hws hHeld.size
    have Hq := hid hq
    clear HC HK HV hHeld hq hM hB hV hK0 hum hpm hG10 hb10 hb5 hB5
    go_wp2
    go_upto_region 4 with (fail)
    obtain ⟨w3, hw3⟩ : ∃ w3, w3 = w10 := ⟨_, rfl⟩
    rw [← hw3] at hC2 hM3 hB3 hV3 hK3 hum3 hpm3 hws3 ⊢
    clear hw3
    have HC : Hid (∀ W, Ch (fun x => x = b) w3 W → W.cell? ⟨p, 39, none⟩ = some (.map (some b))) := hid fun W hc => (hB3.ch hc hpb).cellAt 39 _ h39
    have HK : Hid (∀ W, Ch (fun x => x = b) w3 W → W.rangeAt gk 0 [Value.int .i64 s.1.1, .int .i64 s.1.2]) := hid fun W hc => (hK3.ch hc hkb).whole
    have HV : Hid (∀ W, Ch (fun x => x = b) w3 W → W.rangeAt gv 0 lm) := hid fun W hc => (hV3.ch hc hvb').whole
    refine wp_region_noPanic ?_
    refine wp_region_held_drew (S := Ch (fun x => x = b) w3) (by kernel_rfl) ((Ch.refl _ _).drew) (fun hHeld => ?_)
    refine wpAnyH_take (i := 0) (oi := ⟨some 20, _, _, _, _, none⟩) (v := ?_) rfl (by kernel_rfl) (by kernel_rfl) (by kernel_rfl) (fun _ _ _ h => h) (Or.inl ⟨by rfl, ?_⟩) (by assumption) ?_
    rotate_left
    · intro w hSw; go_simp; try with_reducible rfl
    try simp only [Act.put, List.setIfInBounds_toArray, List.set_cons_zero, List.set_cons_succ]
    refine wpAnyH_take (i := 1) (oi := ⟨some 21, _, _, _, _, none⟩) (v := ?_) rfl (by kernel_rfl) (by kernel_rfl) (by kernel_rfl) (fun _ _ _ h => h) (Or.inl ⟨by rfl, ?_⟩) (by assumption) ?_
    rotate_left
    · intro w hSw; go_simp; try with_reducible rfl
    try simp only [Act.put, List.setIfInBounds_toArray, List.set_cons_zero, List.set_cons_succ]
    refine wpAnyH_take (i := 2) (oi := ⟨some 22, _, _, _, _, none⟩) (v := ?_) rfl (by kernel_rfl) (by kernel_rfl) (by kernel_rfl) (fun _ _ _ h => h) (Or.inl ⟨by rfl, ?_⟩) (by assumption) ?_
    rotate_left
    · intro w hSw; go_simp; try with_reducible rfl
    try simp only [Act.put, List.setIfInBounds_toArray, List.set_cons_zero, List.set_cons_succ]
    refine wpAnyH_take (i := 3) (oi := ⟨some 23, _, _, _, _, none⟩) (v := ?_) rfl (by kernel_rfl) (by kernel_rfl) (by kernel_rfl) (fun _ _ _ h => h) (Or.inl ⟨by rfl, ?_⟩) (by assumption) ?_
    rotate_left
    · intro w hSw; have hcw := HC.out w hSw; go_simp; try with_reducible rfl
    try simp only [Act.put, List.setIfInBounds_toArray, List.set_cons_zero, List.set_cons_succ]
    refine wpAnyH_take (i := 4) (oi := ⟨some 24, .load 78 (.tmp 4), _, _, _, none⟩) (v := _) rfl (by kernel_rfl) (by kernel_rfl) (by kernel_rfl) (fun _ _ _ h => h) (yieldsIf_load_mid (by rfl) 78 (.tmp 4) (by rfl) _ (0) (by rfl) _ _ (fun _ hs => HK.out _ hs) Try.underlying78 rfl (sizeRg)) (by assumption) ?_
    try simp only [Act.put, List.setIfInBounds_toArray, List.set_cons_zero, List.set_cons_succ]
    refine wpAnyH_take (i := 5) (oi := ⟨some 25, .load 27 (.tmp 3), _, _, _, none⟩) (v := _) rfl (by kernel_rfl) (by kernel_rfl) (by kernel_rfl) (fun _ _ _ h => h) (yieldsIf_load_mid (by rfl) 27 (.tmp 3) (by rfl) _ (0) (by rfl) _ _ (fun _ hs => HV.out _ hs) Try.underlying27 rfl (by rw [Hlm.out]; exact sizeVt)) (by assumption) ?_
    try simp only [Act.put, List.setIfInBounds_toArray, List.set_cons_zero, List.set_cons_succ]
    refine wpAnyH_ready (rs := [6]) (by kernel_rfl) (by simp) ?_
    refine AllReadyH.cons (o := ⟨some 26, _, _, _, _, none⟩) rfl (fun K hK => ?_) AllReadyH.nil
    go_simp
    refine (Hcp.out _ (hum3.ch hHeld hFmb) (hpm3.ch hHeld hFmb)).mono ?_
    rintro e' w6 ⟨vb, vp, rfl, hr6, hr7, hB6⟩
    have hs6 := hHeld.size
    have hC6 := hHeld.belowR hB6
    have hM6 := ((hM3.keep (w' := w3.drew) rfl (fun x _ h => ⟨h, rfl⟩)).below hB6).weak (F' := fun x => F x ∨ w.heap.size ≤ x) (fun x _ h => .inl h)
    have hv6 : wrM.V w6 (fun x => F x ∨ w.heap.size ≤ x) (m.val vb vp) m := ⟨_, rfl, vt_mk (hr6.weak (fun x _ h => .inr (Nat.le_trans (Nat.le_trans hws3 hs6) h))) (hr7.weak (fun x _ h => .inr (Nat.le_trans (Nat.le_trans hws3 hs6) h)))⟩
    refine hK.out _ _ (hC6) (fun hHeld => ?_)
    clear hK K
    try simp only [Act.put, List.setIfInBounds_toArray, List.set_cons_zero, List.set_cons_succ]
    refine wpAnyH_ready (rs := [7]) (by kernel_rfl) (by simp) ?_
    refine AllReadyH.cons (o := ⟨none, _, _, _, _, none⟩) rfl (fun K hK => ?_) AllReadyH.nil
    refine step_putS 64 27 (.tmp 23) (.tmp 24) (.tmp 26) (by rfl) (by rfl) Try.underlying64 (by rfl) hM6 hLn (s := s) (by rfl) (by rfl) hv6 hFb2 ?_
    intro w7 hM7 hG7 hs7
    refine hK.out _ _ (hC6.grow hG7 (fun k hk => .inl (by injection hk with hk; exact hk.symm))) (fun hHeld => ?_)
    clear hK K
    try simp only [Act.put]
    refine wpAnyH_done (by kernel_rfl) ?_ _
    refine NoPanic.normal ?_
    have hC7 := hC2.trans hHeld
    clear HC HK HV hHeld hM3 hB3 hV3 hK3 hum3 hpm3 hM6 hG7 hr6 hr7 hv6 hB6 hC6
    go_wp2
    refine Go.Great.bodyPost_end0 rfl rfl ?_
    exact ⟨rfl, fun x => F x ∨ w.heap.size ≤ x, by rw [wrF_none Hq.out]; exact hM7, hC7, fun x h => h⟩
  | some d =>
    refine wp_region_noPanic ?_
    refine wp_region_held_drew (S := Ch nob w2) (by kernel_rfl) ((Ch.refl _ _).drew) (fun hHeld => ?_)
    refine wpAnyH_take (i := 0) (oi := ⟨some 10, _, _, _, _, none⟩) (v := ?_) rfl (by kernel_rfl) (by kernel_rfl) (by kernel_rfl) (fun _ _ _ h => h) (Or.inl ⟨by rfl, ?_⟩) (by assumption) ?_
    rotate_left
    · intro w hSw; go_simp; try with_reducible rfl
    try simp only [Act.put, List.setIfInBounds_toArray, List.set_cons_zero, List.set_cons_succ]
    refine wpAnyH_take (i := 1) (oi := ⟨some 11, _, _, _, _, none⟩) (v := ?_) rfl (by kernel_rfl) (by kernel_rfl) (by kernel_rfl) (fun _ _ _ h => h) (Or.inl ⟨by rfl, ?_⟩) (by assumption) ?_
    rotate_left
    · intro w hSw; go_simp; try with_reducible rfl
    try simp only [Act.put, List.setIfInBounds_toArray, List.set_cons_zero, List.set_cons_succ]
    refine wpAnyH_take (i := 2) (oi := ⟨some 12, _, _, _, _, none⟩) (v := ?_) rfl (by kernel_rfl) (by kernel_rfl) (by kernel_rfl) (fun _ _ _ h => h) (Or.inl ⟨by rfl, ?_⟩) (by assumption) ?_
    rotate_left
    · intro w hSw; go_simp; try with_reducible rfl
    try simp only [Act.put, List.setIfInBounds_toArray, List.set_cons_zero, List.set_cons_succ]
    refine wpAnyH_take (i := 3) (oi := ⟨some 13, _, _, _, _, none⟩) (v := ?_) rfl (by kernel_rfl) (by kernel_rfl) (by kernel_rfl) (fun _ _ _ h => h) (Or.inl ⟨by rfl, ?_⟩) (by assumption) ?_
    rotate_left
    · intro w hSw; have hcw := HC.out w hSw; go_simp; try with_reducible rfl
    try simp only [Act.put, List.setIfInBounds_toArray, List.set_cons_zero, List.set_cons_succ]
    refine wpAnyH_take (i := 4) (oi := ⟨some 14, .load 78 (.tmp 4), _, _, _, none⟩) (v := _) rfl (by kernel_rfl) (by kernel_rfl) (by kernel_rfl) (fun _ _ _ h => h) (yieldsIf_load_mid (by rfl) 78 (.tmp 4) (by rfl) _ (0) (by rfl) _ _ (fun _ hs => HK.out _ hs) Try.underlying78 rfl (sizeRg)) (by assumption) ?_
    try simp only [Act.put, List.setIfInBounds_toArray, List.set_cons_zero, List.set_cons_succ]
    refine wpAnyH_ready (rs := [5, 9]) (by kernel_rfl) (by simp) ?_
    refine AllReadyH.cons (o := ⟨some 15, .lookup _ _ _ _, _, _, _, none⟩) rfl (fun K hK => ?_) ?_
    · refine step_lookS 64 27 (.tmp 13) (.tmp 14) true (by rfl) (by rfl) Try.underlying64 (zVote _) (by rfl) (hM.below hHeld.below) (s := s) (by rfl) ?_ ?_
      · intro h; rw [hq] at h; cases h
      intro d2 v hd2 hv2
      rw [if_pos rfl]
      obtain ⟨cs2, rfl, hel2⟩ := hv2
      obtain ⟨ub2, up2, rfl, hub2, hup2⟩ := vt_open hel2
      obtain ⟨A6, c6, rfl⟩ := hub2.shape
      obtain ⟨A7, c7, rfl, _, _⟩ := hup2.slShape
      refine hK.out _ _ (hHeld) (fun hHeld => ?_)
      clear hK K
      try simp only [Act.put, List.setIfInBounds_toArray, List.set_cons_zero, List.set_cons_succ]
      refine wpAnyH_take (i := 6) (oi := ⟨some 9, _, _, _, _, none⟩) (v := ?_) rfl (by kernel_rfl) (by kernel_rfl) (by kernel_rfl) (fun _ _ _ h => h) (Or.inl ⟨by rfl, ?_⟩) (by assumption) ?_
      rotate_left
      · intro w hSw; go_simp; try with_reducible rfl
      try simp only [Act.put, List.setIfInBounds_toArray, List.set_cons_zero, List.set_cons_succ]
      refine wpAnyH_take (i := 7) (oi := ⟨some 16, _, _, _, _, none⟩) (v := ?_) rfl (by kernel_rfl) (by kernel_rfl) (by kernel_rfl) (fun _ _ _ h => h) (Or.inl ⟨by rfl, ?_⟩) (by assumption) ?_
      rotate_left
      · intro w hSw; go_simp; try with_reducible rfl
      try simp only [Act.put, List.setIfInBounds_toArray, List.set_cons_zero, List.set_cons_succ]
      refine wpAnyH_take (i := 8) (oi := ⟨some 17, _, _, _, _, none⟩) (v := ?_) rfl (by kernel_rfl) (by kernel_rfl) (by kernel_rfl) (fun _ _ _ h => h) (Or.inl ⟨by rfl, ?_⟩) (by assumption) ?_
      rotate_left
      · intro w hSw; go_simp; try with_reducible rfl
      try simp only [Act.put, List.setIfInBounds_toArray, List.set_cons_zero, List.set_cons_succ]
      refine wpAnyH_ready (rs := [9]) (by kernel_rfl) (by simp) ?_
      refine AllReadyH.cons (o := ⟨some 5, .alloc _, _, _, _, none⟩) rfl (fun K hK => ?_) AllReadyH.nil
      refine step_new 27 (by rfl) (by rfl) zeroV13 ?_
      intro g5 w5 hg5 hgl5 hb5 hB5
      have hg5w : w2.heap.size ≤ g5 := Nat.le_trans hHeld.size hg5
      refine hK.out _ _ (hHeld.belowR hB5) (fun hHeld => ?_)
      clear hK K
      try simp only [Act.put, List.setIfInBounds_toArray, List.set_cons_zero, List.set_cons_succ]
      refine wpAnyH_ready (rs := [10]) (by kernel_rfl) (by simp) ?_
      refine AllReadyH.cons (o := ⟨none, _, _, _, _, none⟩) rfl (fun K hK => ?_) AllReadyH.nil
      refine step_st 27 (.tmp 5) (.tmp 16) (by rfl) (by rfl) (by rfl) (f := 0) (by rfl) (l := d2.l (.slice A6 d2.b.length c6) (.slice A7 d2.ps.length c7)) (by rfl) hb5 (by rw [len_vt, len_zVl]; omega) (by rw [len_vt]; exact sizeVt) one_vt ?_
      intro w10 hb10 hG10
      refine hK.out _ _ (hHeld.grow hG10 (fun k hk => .inr (by injection hk with hk; omega))) (fun hHeld => ?_)
      clear hK K
      try simp only [Act.put, List.setIfInBounds_toArray, List.set_cons_zero, List.set_cons_succ]
      refine wpAnyH_take (i := 11) (oi := ⟨some 6, _, _, _, _, none⟩) (v := ?_) rfl (by kernel_rfl) (by kernel_rfl) (by kernel_rfl) (fun _ _ _ h => h) (Or.inl ⟨by rfl, ?_⟩) (by assumption) ?_
      rotate_left
      · intro w hSw; go_simp; try with_reducible rfl
      try simp only [Act.put, List.setIfInBounds_toArray, List.set_cons_zero, List.set_cons_succ]
      refine wpAnyH_done (by kernel_rfl) ?_ _
      refine NoPanic.normal ?_
      have hC2 := hC.trans (hHeld.weaken (fun _ _ h => h.elim))
      have hM2 := hM.below hHeld.below
      have Hq := hid hq
      clear HC HK HV hHeld hq hM
      go_wp2
      refine Go.Great.bodyPost_end0 rfl rfl ?_
      exact ⟨rfl, fun x => F x ∨ w.heap.size ≤ x, by rw [wrF_some Hq.out]; exact hM2.weak (fun x _ h => .inl h), hC2, fun x h => h⟩
    refine AllReadyH.cons (o := ⟨some 5, .alloc _, _, _, _, none⟩) rfl (fun K hK => ?_) AllReadyH.nil
    refine step_new 27 (by rfl) (by rfl) zeroV13 ?_
    intro g5 w5 hg5 hgl5 hb5 hB5
    have hg5w : w2.heap.size ≤ g5 := Nat.le_trans hHeld.size hg5
    refine hK.out _ _ (hHeld.belowR hB5) (fun hHeld => ?_)
    clear hK K
    try simp only [Act.put, List.setIfInBounds_toArray, List.set_cons_zero, List.set_cons_succ]
    refine wpAnyH_ready (rs := [5]) (by kernel_rfl) (by simp) ?_
    refine AllReadyH.cons (o := ⟨some 15, .lookup _ _ _ _, _, _, _, none⟩) rfl (fun K hK => ?_) AllReadyH.nil
    refine step_lookS 64 27 (.tmp 13) (.tmp 14) true (by rfl) (by rfl) Try.underlying64 (zVote _) (by rfl) (hM.below hHeld.below) (s := s) (by rfl) ?_ ?_
    · intro h; rw [hq] at h; cases h
    intro d2 v hd2 hv2
    rw [if_pos rfl]
    obtain ⟨cs2, rfl, hel2⟩ := hv2
    obtain ⟨ub2, up2, rfl, hub2, hup2⟩ := vt_open hel2
    obtain ⟨A6, c6, rfl⟩ := hub2.shape
    obtain ⟨A7, c7, rfl, _, _⟩ := hup2.slShape
    refine hK.out _ _ (hHeld) (fun hHeld => ?_)
    clear hK K
    try simp only [Act.put, List.setIfInBounds_toArray, List.set_cons_zero, List.set_cons_succ]
    refine wpAnyH_take (i := 6) (oi := ⟨some 9, _, _, _, _, none⟩) (v := ?_) rfl (by kernel_rfl) (by kernel_rfl) (by kernel_rfl) (fun _ _ _ h => h) (Or.inl ⟨by rfl, ?_⟩) (by assumption) ?_
    rotate_left
    · intro w hSw; go_simp; try with_reducible rfl
    try simp only [Act.put, List.setIfInBounds_toArray, List.set_cons_zero, List.set_cons_succ]
    refine wpAnyH_take (i := 7) (oi := ⟨some 16, _, _, _, _, none⟩) (v := ?_) rfl (by kernel_rfl) (by kernel_rfl) (by kernel_rfl) (fun _ _ _ h => h) (Or.inl ⟨by rfl, ?_⟩) (by assumption) ?_
    rotate_left
    · intro w hSw; go_simp; try with_reducible rfl
    try simp only [Act.put, List.setIfInBounds_toArray, List.set_cons_zero, List.set_cons_succ]
    refine wpAnyH_take (i := 8) (oi := ⟨some 17, _, _, _, _, none⟩) (v := ?_) rfl (by kernel_rfl) (by kernel_rfl) (by kernel_rfl) (fun _ _ _ h => h) (Or.inl ⟨by rfl, ?_⟩) (by assumption) ?_
    rotate_left
    · intro w hSw; go_simp; try with_reducible rfl
    try simp only [Act.put, List.setIfInBounds_toArray, List.set_cons_zero, List.set_cons_succ]
    refine wpAnyH_ready (rs := [10]) (by kernel_rfl) (by simp) ?_
    refine AllReadyH.cons (o := ⟨none, _, _, _, _, none⟩) rfl (fun K hK => ?_) AllReadyH.nil
    refine step_st 27 (.tmp 5) (.tmp 16) (by rfl) (by rfl) (by rfl) (f := 0) (by rfl) (l := d2.l (.slice A6 d2.b.length c6) (.slice A7 d2.ps.length c7)) (by rfl) hb5 (by rw [len_vt, len_zVl]; omega) (by rw [len_vt]; exact sizeVt) one_vt ?_
    intro w10 hb10 hG10
    refine hK.out _ _ (hHeld.grow hG10 (fun k hk => .inr (by injection hk with hk; omega))) (fun hHeld => ?_)
    clear hK K
    try simp only [Act.put, List.setIfInBounds_toArray, List.set_cons_zero, List.set_cons_succ]
    refine wpAnyH_take (i := 11) (oi := ⟨some 6, _, _, _, _, none⟩) (v := ?_) rfl (by kernel_rfl) (by kernel_rfl) (by kernel_rfl) (fun _ _ _ h => h) (Or.inl ⟨by rfl, ?_⟩) (by assumption) ?_
    rotate_left
    · intro w hSw; go_simp; try with_reducible rfl
    try simp only [Act.put, List.setIfInBounds_toArray, List.set_cons_zero, List.set_cons_succ]
    refine wpAnyH_done (by kernel_rfl) ?_ _
    refine NoPanic.normal ?_
    have hC2 := hC.trans (hHeld.weaken (fun _ _ h => h.elim))
    have hM2 := hM.below hHeld.below
    have Hq := hid hq
    clear HC HK HV hHeld hq hM
    go_wp2
    refine Go.Great.bodyPost_end0 rfl rfl ?_
    exact ⟨rfl, fun x => F x ∨ w.heap.size ≤ x, by rw [wrF_some Hq.out]; exact hM2.weak (fun x _ h => .inl h), hC2, fun x h => h⟩
end Go.Proofs.Ytkoncjcnpconkaa
