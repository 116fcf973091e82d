/- BS: layer 16: contracts of queue: New, Add. -/
import Derived.Test.YtnpgloeldoiekaaBQ
namespace Go.V
open Go.RowKit
theorem own_shapeW {w : World} {base : Nat} {e : TypeId} {s : Nat} {v : Value} {n : Nat} {xs : List Value} (h : w.ownsRow base e s v n xs) : ∃ A c, v = .slice A n c := by
  rcases h.2 with ⟨h, h0⟩ | ⟨g, cap, cur, h, _⟩
  · exact ⟨none, 0, by rw [h, h0]⟩
  · exact ⟨some ⟨g, 0, none⟩, cap, h⟩
theorem rows_app (a b : List K2) : K2.rows (a ++ b) = K2.rows a ++ K2.rows b := by unfold K2.rows; rw [List.flatMap_append]
theorem Ch.trans' {w w1 w2 : World} {F G : Nat → Prop} (h : Ch F w w1) (k : Ch G w1 w2) : Ch (fun x => F x ∨ G x) w w2 := (h.weaken (fun _ _ h => .inl h)).trans (k.weaken (fun _ _ h => .inr h))
end Go.V
namespace Go.Proofs.Ytnpgloeldoiekaa
open Go.RowKit Go.V Go.Maps
theorem QP.same {w w' : World} {v : Value} {M : Nat → Prop} {l : List Rq} (h : QX w v M l) (hB : Below w.heap.size w w') : QP w M w' v l M := ⟨h.below hB, fun _ h => .inl h, (Ch.refl _ _).belowR hB⟩
theorem sizeSp : (Try.prog.info? 56).map (·.size) = some 1 := by kernel_rfl
theorem bldQ16 (g : Nat) : ∀ W : World, (Instr.build 58 #[(1, .map (some g))]).run Try.prog W = .ok (.agg [.slice none 0 0, .map (some g)].toArray) W := fun _ => by kernel_rfl
set_option maxHeartbeats 2000000 in
theorem qnew16_any (w : World) :
    Calls Try.prog 11 #[] w fun e w' => ∃ v M, e = .returned v ∧ QX w' v M [] ∧ (∀ b, M b → w.heap.size ≤ b) ∧ Below w.heap.size w w' := by
  have hbl := bldQ16 w.heap.size
  have hM := MS.made (T := qM) (w := w) (F := nob)
  have hmm := @run_makeMap Try.prog
  have hB1 : Below w.heap.size w (w.alloc (.map #[] 0)) := (Below.refl _ _).alloc (Nat.le_refl _) _
  have hsz : (w.alloc (.map #[] 0)).heap.size = w.heap.size + 1 := by simp
  have hP := Blk.new' (w.alloc (.map #[] 0)) 58 [.slice none 0 0, .map (some w.heap.size)]
  have hM2 := hM.below ((Below.refl _ _).alloc (Nat.le_refl _) (.cells [.slice none 0 0, .map (some w.heap.size)].toArray 58))
  have hB2 := hB1.alloc (by rw [hsz]; omega) (.cells [.slice none 0 0, .map (some w.heap.size)].toArray 58)
  have hz := (show (Value.agg [.slice none 0 0, .map (some w.heap.size)].toArray).cells = [.slice none 0 0, .map (some w.heap.size)].toArray from rfl)
  rw [hsz] at hP
  obtain ⟨l, hl⟩ : ∃ l : List Value, l = [.slice none 0 0, .map (some w.heap.size)] := ⟨_, rfl⟩
  rw [← hl] at hbl hP hM2 hB2 hz
  have Hl := hid hl
  clear hl hB1 hM hsz
  go_enter Try.func11, Try.ntmps11
  go_wp2_with (first | refine wp_bld 58 [(1, .tmp 1)] rfl rfl [(1, .map (some w.heap.size))] rfl hbl ?_ | go_in)
  go_ret
  refine ⟨_, fun x => x = w.heap.size + 1 ∨ x = w.heap.size, rfl, ⟨w.heap.size + 1, w.heap.size, .slice none 0 0, nob, rfl, ⟨?_, World.ownsRow_nil _ _ _ _, hM2, qin_nil, by omega, by simp [Value.ownBlock], fun x h => h.elim⟩, fun x => ?_⟩, ?_, hB2⟩
  · rw [← Hl.out]
    exact hP
  · constructor
    · rintro (h | h)
      · exact .inl h
      · exact .inr (.inl h)
    · rintro (h | h | h | h)
      · exact .inl h
      · exact .inr h
      · simp [Value.ownBlock] at h
      · exact h.elim
  · rintro x (h | h)
    · omega
    · omega
set_option maxRecDepth 100000 in
set_option maxHeartbeats 16000000 in
theorem qadd16_any (v : Value) (M : Nat → Prop) (l : List Rq) (r : Rq) (u : Value) (G : Nat → Prop) (w : World) (h : QX w v M l) (hu : Rd w G u (bys r.g)) (hGM : ∀ b, G b → ¬ M b) (hr : in64 r.a ∧ in64 r.b) (_hg : r.g.length ≤ 2000) :
    Calls Try.prog 12 #[v, .agg (r.l u).toArray] w fun e w' => e = .returned (.int .i64 (addE l r)) ∧ ∃ M', QP w M w' v (addL l r) M' := by
  have Hsame := hid (fun (w' : World) (hB : Below w.heap.size w w') => QP.same h hB)
  obtain ⟨p, b, ov, Fs, rfl, hm, hM⟩ := h
  obtain ⟨Ao, co, rfl⟩ := own_shapeW hm.row
  obtain ⟨Au, cu, rfl⟩ := hu.shape
  have hqa := hm.qin
  have hqa : addE l r = 0 → QIn (l ++ [r]) := fun h => by rw [← addL_z h]; exact qin_add hqa r
  have hE : addE l r = if r.fm = false then 15 else if hasQ l r = true then 7 else if 12 ≤ l.length then 4 else 0 := rfl
  have hen := fun hf h => ent_none (r := r) hm.qin.fm hf h
  have hes := fun hf h => ent_some (r := r) hm.qin.fm hf h
  have e0 := addL_z (l := l) (r := r)
  have e1 := addL_e (l := l) (r := r)
  have hfo := fun X h => formed16_any r (.slice Au r.g.length cu) G X h hr.1 hr.2
  have hcp := fun (hf : r.fm = true) X h => copied16_any r (.slice Au r.g.length cu) G X h (by have := fm_in hf; omega)
  have hky := fun hf => ky_fm (r := r) hf
  obtain ⟨EE, hEE⟩ : ∃ E, E = addE l r := ⟨_, rfl⟩
  rw [← hEE] at e0 e1 hE hqa ⊢
  obtain ⟨LL, hLL⟩ : ∃ L, L = addL l r := ⟨_, rfl⟩
  rw [← hLL] at e0 e1 ⊢
  have E0 := hid e0
  have E1 := hid e1
  have Hqa := hid hqa
  have hpr := hm.pr
  have hko : ∀ k, (Value.slice Ao l.length co).ownBlock = some k → k < w.heap.size := fun k h => (hm.row.lt k h).2
  have hplw := hm.blk.lt
  have hblw := hm.map.lt
  have hlen := hm.qin.len
  have hV := Blk.new' w 32 (r.l (.slice Au r.g.length cu))
  have hB0 : Below w.heap.size w (w.alloc (.cells (r.l (.slice Au r.g.length cu)).toArray 32)) := (Below.refl _ _).alloc (Nat.le_refl _) _
  have hlr := len_l r (.slice Au r.g.length cu)
  have hl0 : (r.l (.slice Au r.g.length cu))[0]? = some (.int .i64 r.c) := rfl
  have hl1 : (r.l (.slice Au r.g.length cu))[1]? = some (.int .i64 r.s) := rfl
  obtain ⟨lr, elr⟩ : ∃ x, x = r.l (.slice Au r.g.length cu) := ⟨_, rfl⟩
  rw [← elr] at hfo hcp hV hB0 hlr hl0 hl1 ⊢
  have hm := hm.below hB0
  have hu := hu.below hB0
  obtain ⟨q, hq⟩ : ∃ q, q = r.fm := ⟨_, rfl⟩
  rw [← hq] at hfo hE hcp hen hes hky
  have Hlr := hid hlr
  have Hfo := hid hfo
  have Hcp0 := hid hcp
  have Hen := hid hen
  have Hes := hid hes
  have Hky := hid hky
  have HE := hid hE
  clear hEE hLL e0 e1 hqa elr hlr hq hfo hcp hen hes hky hE hr
  go_enter Try.func12, Try.ntmps12
  go_wp2_with (first | refine wp_ld 32 (.tmp 3) rfl rfl rfl hV.whole Try.underlying32 rfl (by rw [Hlr.out]; exact sizeRq16) ?_)
  obtain ⟨w0, hw0⟩ : ∃ w0, w0 = w.alloc (.cells lr.toArray 32) := ⟨_, rfl⟩
  rw [← hw0] at hV hm hu hB0 ⊢
  clear hw0
  obtain ⟨gv, hgv⟩ : ∃ g, g = w.heap.size := ⟨_, rfl⟩
  rw [← hgv] at hV ⊢
  have hvp : gv ≠ p := by omega
  have hvb : gv ≠ b := by omega
  clear hgv
  refine (Hfo.out _ hu).mono ?_
  rintro e' w1 ⟨rfl, hB1⟩
  have hV := hV.below hB1
  have hm := hm.below hB1
  have hu := hu.below hB1
  have hBw := hB0.trans (hB1.mono hB0.size)
  clear hB0 hB1 Hfo
  cases q with
  | false =>
    have HE15 : Hid (EE = 15) := hid (HE.out.trans (if_pos rfl))
    clear hm hV hu Hcp0 Hen Hes Hky HE
    go_wp2
    go_ret
    rw [E1.out (by rw [HE15.out]; decide), HE15.out]
    exact ⟨rfl, M, Hsame.out _ hBw⟩
  | true =>
  have HE := hid (HE.out.trans (if_neg (by simp)))
  have Hcp := hid (Hcp0.out rfl)
  obtain ⟨s, hs⟩ : ∃ s, s = ky16 r := ⟨_, rfl⟩
  have hk := Hky.out rfl
  rw [← hs] at hk
  have hc0 := hV.cellAt 0 _ hl0
  have hc1 := hV.cellAt 1 _ hl1
  rw [show r.c = s.1.1 from by rw [hk]] at hc0
  rw [show r.s = s.1.2 from by rw [hk]] at hc1
  have hen := fun h => Hen.out rfl h
  have hes := fun h => Hes.out rfl h
  rw [← hs] at hen hes
  have Hs := hid hs
  have Hen2 := hid hen
  have Hes2 := hid hes
  clear Hcp0 Hky hk hs hen hes Hen Hes hl0 hl1
  go_wp2_with (first | (refine wp_newst 60 5 (.tmp 17) rfl rfl rfl rfl rfl rfl zeroPl (l := [.int .i64 s.1.1, .int .i64 s.1.2]) rfl rfl sizePl (by simp [Value.oneCell']) (by simp) ?_; intro w2 hK0 hB2 hs2; refine wp_stop ?_) | go_in)
  have hws1 := hBw.size
  have hV := hV.below hB2
  have hm := hm.below hB2
  have hu := hu.below hB2
  have hBw := hBw.trans (hB2.mono hBw.size)
  obtain ⟨gk, hgk⟩ : ∃ g, g = w1.heap.size := ⟨_, rfl⟩
  rw [← hgk] at hK0 ⊢
  have hkp : gk ≠ p := by omega
  have hkb : gk ≠ b := by omega
  have hgkw : w.heap.size ≤ gk := by omega
  clear hgk hs2 hB2 hc0 hc1
  have hone : ∀ v ∈ [Value.int .i64 s.1.1, .int .i64 s.1.2], v.oneCell' = true := one_k2 s
  refine wp_go ?_
  go_upto_region 6 with (fail)
  have hmp := hm.map
  have HC : Hid (∀ W, Ch nob w2 W → W.cell? ⟨p, 1, none⟩ = some (.map (some b))) := hid fun W hc => (hm.blk.ch hc (fun h => h)).cellAt 1 _ rfl
  have HK : Hid (∀ W, Ch nob w2 W → W.rangeAt gk 0 [Value.int .i64 s.1.1, .int .i64 s.1.2]) := hid fun W hc => (hK0.ch hc (fun h => h)).whole
  by_cases hhas : hasQ l r = true
  · have HE := hid (HE.out.trans (if_pos hhas))
    obtain ⟨d, hq⟩ := Hes2.out hhas
    clear Hen2 Hes2 hhas
    refine wp_region_noPanic ?_
    refine wp_region_held_drew (S := Ch nob w2) (by kernel_rfl) ((Ch.refl _ _).drew) (fun hHeld => ?_)
    refine wpAnyH_take (i := 0) (oi := ⟨some 19, _, _, _, _, none⟩) (v := ?_) rfl (by kernel_rfl) (by kernel_rfl) (by kernel_rfl) (fun _ _ _ h => h) (Or.inl ⟨by rfl, ?_⟩) (by assumption) ?_
    rotate_left
    · intro w hSw; go_simp; try with_reducible rfl
    try simp only [Act.put, List.setIfInBounds_toArray, List.set_cons_zero, List.set_cons_succ]
    refine wpAnyH_take (i := 1) (oi := ⟨some 20, _, _, _, _, none⟩) (v := ?_) rfl (by kernel_rfl) (by kernel_rfl) (by kernel_rfl) (fun _ _ _ h => h) (Or.inl ⟨by rfl, ?_⟩) (by assumption) ?_
    rotate_left
    · intro w hSw; go_simp; try with_reducible rfl
    try simp only [Act.put, List.setIfInBounds_toArray, List.set_cons_zero, List.set_cons_succ]
    refine wpAnyH_take (i := 2) (oi := ⟨some 21, _, _, _, _, none⟩) (v := ?_) rfl (by kernel_rfl) (by kernel_rfl) (by kernel_rfl) (fun _ _ _ h => h) (Or.inl ⟨by rfl, ?_⟩) (by assumption) ?_
    rotate_left
    · intro w hSw; go_simp; try with_reducible rfl
    try simp only [Act.put, List.setIfInBounds_toArray, List.set_cons_zero, List.set_cons_succ]
    refine wpAnyH_take (i := 3) (oi := ⟨some 22, _, _, _, _, none⟩) (v := ?_) rfl (by kernel_rfl) (by kernel_rfl) (by kernel_rfl) (fun _ _ _ h => h) (Or.inl ⟨by rfl, ?_⟩) (by assumption) ?_
    rotate_left
    · intro w hSw; have hcw := HC.out w hSw; go_simp; try with_reducible rfl
    try simp only [Act.put, List.setIfInBounds_toArray, List.set_cons_zero, List.set_cons_succ]
    refine wpAnyH_take (i := 4) (oi := ⟨some 23, .load 60 (.tmp 5), _, _, _, none⟩) (v := _) rfl (by kernel_rfl) (by kernel_rfl) (by kernel_rfl) (fun _ _ _ h => h) (yieldsIf_load_mid (by rfl) 60 (.tmp 5) (by rfl) _ (0) (by rfl) _ _ (fun _ hs => HK.out _ hs) Try.underlying60 rfl (sizePl)) (by assumption) ?_
    try simp only [Act.put, List.setIfInBounds_toArray, List.set_cons_zero, List.set_cons_succ]
    refine wpAnyH_ready (rs := [5, 9]) (by kernel_rfl) (by simp) ?_
    refine AllReadyH.cons (o := ⟨some 24, .lookup _ _ _ _, _, _, _, none⟩) rfl (fun K hK => ?_) ?_
    · refine step_lookS 55 32 (.tmp 22) (.tmp 23) true (by rfl) (by rfl) Try.underlying55 (zReq16 _) (by rfl) (hmp.below hHeld.below) (s := s) (by rfl) ?_ ?_
      · intro h; rw [hq] at h; cases h
      intro d2 v hd2 hv2
      rw [if_pos rfl]
      obtain ⟨u2, rfl, hu2⟩ := hv2
      obtain ⟨A6, c6, rfl⟩ := hu2.shape
      refine hK.out _ _ (hHeld) (fun hHeld => ?_)
      clear hK K
      try simp only [Act.put, List.setIfInBounds_toArray, List.set_cons_zero, List.set_cons_succ]
      refine wpAnyH_take (i := 6) (oi := ⟨some 18, _, _, _, _, none⟩) (v := ?_) rfl (by kernel_rfl) (by kernel_rfl) (by kernel_rfl) (fun _ _ _ h => h) (Or.inl ⟨by rfl, ?_⟩) (by assumption) ?_
      rotate_left
      · intro w hSw; go_simp; try with_reducible rfl
      try simp only [Act.put, List.setIfInBounds_toArray, List.set_cons_zero, List.set_cons_succ]
      refine wpAnyH_take (i := 7) (oi := ⟨some 25, _, _, _, _, none⟩) (v := ?_) rfl (by kernel_rfl) (by kernel_rfl) (by kernel_rfl) (fun _ _ _ h => h) (Or.inl ⟨by rfl, ?_⟩) (by assumption) ?_
      rotate_left
      · intro w hSw; go_simp; try with_reducible rfl
      try simp only [Act.put, List.setIfInBounds_toArray, List.set_cons_zero, List.set_cons_succ]
      refine wpAnyH_take (i := 8) (oi := ⟨some 26, _, _, _, _, none⟩) (v := ?_) rfl (by kernel_rfl) (by kernel_rfl) (by kernel_rfl) (fun _ _ _ h => h) (Or.inl ⟨by rfl, ?_⟩) (by assumption) ?_
      rotate_left
      · intro w hSw; go_simp; try with_reducible rfl
      try simp only [Act.put, List.setIfInBounds_toArray, List.set_cons_zero, List.set_cons_succ]
      refine wpAnyH_ready (rs := [9]) (by kernel_rfl) (by simp) ?_
      refine AllReadyH.cons (o := ⟨some 6, .alloc _, _, _, _, none⟩) rfl (fun K hK => ?_) AllReadyH.nil
      refine step_new 32 (by rfl) (by rfl) zeroRq16 ?_
      intro g5 w5 hg5 hgl5 hb5 hB5
      have hg5w : w2.heap.size ≤ g5 := Nat.le_trans hHeld.size hg5
      refine hK.out _ _ (hHeld.belowR hB5) (fun hHeld => ?_)
      clear hK K
      try simp only [Act.put, List.setIfInBounds_toArray, List.set_cons_zero, List.set_cons_succ]
      refine wpAnyH_ready (rs := [10]) (by kernel_rfl) (by simp) ?_
      refine AllReadyH.cons (o := ⟨none, _, _, _, _, none⟩) rfl (fun K hK => ?_) AllReadyH.nil
      refine step_st 32 (.tmp 6) (.tmp 25) (by rfl) (by rfl) (by rfl) (f := 0) (by rfl) (l := d2.l (.slice A6 d2.g.length c6)) (by rfl) hb5 (by first | exact Nat.le_refl _ | (rw [len_l]; exact Nat.le_refl _)) (by first | exact sizeRq16 | (rw [len_l]; exact sizeRq16)) one_l16 ?_
      intro w10 hb10 hG10
      refine hK.out _ _ (hHeld.grow hG10 (fun k hk => .inr (by injection hk with hk; omega))) (fun hHeld => ?_)
      clear hK K
      try simp only [Act.put, List.setIfInBounds_toArray, List.set_cons_zero, List.set_cons_succ]
      refine wpAnyH_take (i := 11) (oi := ⟨some 7, _, _, _, _, none⟩) (v := ?_) rfl (by kernel_rfl) (by kernel_rfl) (by kernel_rfl) (fun _ _ _ h => h) (Or.inl ⟨by rfl, ?_⟩) (by assumption) ?_
      rotate_left
      · intro w hSw; go_simp; try with_reducible rfl
      try simp only [Act.put, List.setIfInBounds_toArray, List.set_cons_zero, List.set_cons_succ]
      refine wpAnyH_done (by kernel_rfl) ?_ _
      refine NoPanic.normal ?_
      have hB2 := hBw.trans (hHeld.below.mono hBw.size)
      clear HC HK hHeld hq hmp hu2
      go_wp2
      go_ret
      rw [E1.out (by rw [HE.out]; decide), HE.out]
      exact ⟨rfl, M, Hsame.out _ hB2⟩
    refine AllReadyH.cons (o := ⟨some 6, .alloc _, _, _, _, none⟩) rfl (fun K hK => ?_) AllReadyH.nil
    refine step_new 32 (by rfl) (by rfl) zeroRq16 ?_
    intro g5 w5 hg5 hgl5 hb5 hB5
    have hg5w : w2.heap.size ≤ g5 := Nat.le_trans hHeld.size hg5
    refine hK.out _ _ (hHeld.belowR hB5) (fun hHeld => ?_)
    clear hK K
    try simp only [Act.put, List.setIfInBounds_toArray, List.set_cons_zero, List.set_cons_succ]
    refine wpAnyH_ready (rs := [5]) (by kernel_rfl) (by simp) ?_
    refine AllReadyH.cons (o := ⟨some 24, .lookup _ _ _ _, _, _, _, none⟩) rfl (fun K hK => ?_) AllReadyH.nil
    refine step_lookS 55 32 (.tmp 22) (.tmp 23) true (by rfl) (by rfl) Try.underlying55 (zReq16 _) (by rfl) (hmp.below hHeld.below) (s := s) (by rfl) ?_ ?_
    · intro h; rw [hq] at h; cases h
    intro d2 v hd2 hv2
    rw [if_pos rfl]
    obtain ⟨u2, rfl, hu2⟩ := hv2
    obtain ⟨A6, c6, rfl⟩ := hu2.shape
    refine hK.out _ _ (hHeld) (fun hHeld => ?_)
    clear hK K
    try simp only [Act.put, List.setIfInBounds_toArray, List.set_cons_zero, List.set_cons_succ]
    refine wpAnyH_take (i := 6) (oi := ⟨some 18, _, _, _, _, none⟩) (v := ?_) rfl (by kernel_rfl) (by kernel_rfl) (by kernel_rfl) (fun _ _ _ h => h) (Or.inl ⟨by rfl, ?_⟩) (by assumption) ?_
    rotate_left
    · intro w hSw; go_simp; try with_reducible rfl
    try simp only [Act.put, List.setIfInBounds_toArray, List.set_cons_zero, List.set_cons_succ]
    refine wpAnyH_take (i := 7) (oi := ⟨some 25, _, _, _, _, none⟩) (v := ?_) rfl (by kernel_rfl) (by kernel_rfl) (by kernel_rfl) (fun _ _ _ h => h) (Or.inl ⟨by rfl, ?_⟩) (by assumption) ?_
    rotate_left
    · intro w hSw; go_simp; try with_reducible rfl
    try simp only [Act.put, List.setIfInBounds_toArray, List.set_cons_zero, List.set_cons_succ]
    refine wpAnyH_take (i := 8) (oi := ⟨some 26, _, _, _, _, none⟩) (v := ?_) rfl (by kernel_rfl) (by kernel_rfl) (by kernel_rfl) (fun _ _ _ h => h) (Or.inl ⟨by rfl, ?_⟩) (by assumption) ?_
    rotate_left
    · intro w hSw; go_simp; try with_reducible rfl
    try simp only [Act.put, List.setIfInBounds_toArray, List.set_cons_zero, List.set_cons_succ]
    refine wpAnyH_ready (rs := [10]) (by kernel_rfl) (by simp) ?_
    refine AllReadyH.cons (o := ⟨none, _, _, _, _, none⟩) rfl (fun K hK => ?_) AllReadyH.nil
    refine step_st 32 (.tmp 6) (.tmp 25) (by rfl) (by rfl) (by rfl) (f := 0) (by rfl) (l := d2.l (.slice A6 d2.g.length c6)) (by rfl) hb5 (by first | exact Nat.le_refl _ | (rw [len_l]; exact Nat.le_refl _)) (by first | exact sizeRq16 | (rw [len_l]; exact sizeRq16)) one_l16 ?_
    intro w10 hb10 hG10
    refine hK.out _ _ (hHeld.grow hG10 (fun k hk => .inr (by injection hk with hk; omega))) (fun hHeld => ?_)
    clear hK K
    try simp only [Act.put, List.setIfInBounds_toArray, List.set_cons_zero, List.set_cons_succ]
    refine wpAnyH_take (i := 11) (oi := ⟨some 7, _, _, _, _, none⟩) (v := ?_) rfl (by kernel_rfl) (by kernel_rfl) (by kernel_rfl) (fun _ _ _ h => h) (Or.inl ⟨by rfl, ?_⟩) (by assumption) ?_
    rotate_left
    · intro w hSw; go_simp; try with_reducible rfl
    try simp only [Act.put, List.setIfInBounds_toArray, List.set_cons_zero, List.set_cons_succ]
    refine wpAnyH_done (by kernel_rfl) ?_ _
    refine NoPanic.normal ?_
    have hB2 := hBw.trans (hHeld.below.mono hBw.size)
    clear HC HK hHeld hq hmp hu2
    go_wp2
    go_ret
    rw [E1.out (by rw [HE.out]; decide), HE.out]
    exact ⟨rfl, M, Hsame.out _ hB2⟩
  · have HE := hid (HE.out.trans (if_neg hhas))
    have hq := Hen2.out (by simpa using hhas)
    clear Hen2 Hes2 hhas
    refine wp_region_noPanic ?_
    refine wp_region_held_drew (S := Ch nob w2) (by kernel_rfl) ((Ch.refl _ _).drew) (fun hHeld => ?_)
    refine wpAnyH_take (i := 0) (oi := ⟨some 19, _, _, _, _, none⟩) (v := ?_) rfl (by kernel_rfl) (by kernel_rfl) (by kernel_rfl) (fun _ _ _ h => h) (Or.inl ⟨by rfl, ?_⟩) (by assumption) ?_
    rotate_left
    · intro w hSw; go_simp; try with_reducible rfl
    try simp only [Act.put, List.setIfInBounds_toArray, List.set_cons_zero, List.set_cons_succ]
    refine wpAnyH_take (i := 1) (oi := ⟨some 20, _, _, _, _, none⟩) (v := ?_) rfl (by kernel_rfl) (by kernel_rfl) (by kernel_rfl) (fun _ _ _ h => h) (Or.inl ⟨by rfl, ?_⟩) (by assumption) ?_
    rotate_left
    · intro w hSw; go_simp; try with_reducible rfl
    try simp only [Act.put, List.setIfInBounds_toArray, List.set_cons_zero, List.set_cons_succ]
    refine wpAnyH_take (i := 2) (oi := ⟨some 21, _, _, _, _, none⟩) (v := ?_) rfl (by kernel_rfl) (by kernel_rfl) (by kernel_rfl) (fun _ _ _ h => h) (Or.inl ⟨by rfl, ?_⟩) (by assumption) ?_
    rotate_left
    · intro w hSw; go_simp; try with_reducible rfl
    try simp only [Act.put, List.setIfInBounds_toArray, List.set_cons_zero, List.set_cons_succ]
    refine wpAnyH_take (i := 3) (oi := ⟨some 22, _, _, _, _, none⟩) (v := ?_) rfl (by kernel_rfl) (by kernel_rfl) (by kernel_rfl) (fun _ _ _ h => h) (Or.inl ⟨by rfl, ?_⟩) (by assumption) ?_
    rotate_left
    · intro w hSw; have hcw := HC.out w hSw; go_simp; try with_reducible rfl
    try simp only [Act.put, List.setIfInBounds_toArray, List.set_cons_zero, List.set_cons_succ]
    refine wpAnyH_take (i := 4) (oi := ⟨some 23, .load 60 (.tmp 5), _, _, _, none⟩) (v := _) rfl (by kernel_rfl) (by kernel_rfl) (by kernel_rfl) (fun _ _ _ h => h) (yieldsIf_load_mid (by rfl) 60 (.tmp 5) (by rfl) _ (0) (by rfl) _ _ (fun _ hs => HK.out _ hs) Try.underlying60 rfl (sizePl)) (by assumption) ?_
    try simp only [Act.put, List.setIfInBounds_toArray, List.set_cons_zero, List.set_cons_succ]
    refine wpAnyH_ready (rs := [5, 9]) (by kernel_rfl) (by simp) ?_
    refine AllReadyH.cons (o := ⟨some 24, .lookup _ _ _ _, _, _, _, none⟩) rfl (fun K hK => ?_) ?_
    · refine step_lookS 55 32 (.tmp 22) (.tmp 23) true (by rfl) (by rfl) Try.underlying55 (zReq16 _) (by rfl) (hmp.below hHeld.below) (s := s) (by rfl) ?_ ?_
      rotate_left
      · intro d v h; rw [hq] at h; cases h
      intro _
      rw [if_pos rfl]
      refine hK.out _ _ (hHeld) (fun hHeld => ?_)
      clear hK K
      try simp only [Act.put, List.setIfInBounds_toArray, List.set_cons_zero, List.set_cons_succ]
      refine wpAnyH_take (i := 6) (oi := ⟨some 18, _, _, _, _, none⟩) (v := ?_) rfl (by kernel_rfl) (by kernel_rfl) (by kernel_rfl) (fun _ _ _ h => h) (Or.inl ⟨by rfl, ?_⟩) (by assumption) ?_
      rotate_left
      · intro w hSw; go_simp; try with_reducible rfl
      try simp only [Act.put, List.setIfInBounds_toArray, List.set_cons_zero, List.set_cons_succ]
      refine wpAnyH_take (i := 7) (oi := ⟨some 25, _, _, _, _, none⟩) (v := ?_) rfl (by kernel_rfl) (by kernel_rfl) (by kernel_rfl) (fun _ _ _ h => h) (Or.inl ⟨by rfl, ?_⟩) (by assumption) ?_
      rotate_left
      · intro w hSw; go_simp; try with_reducible rfl
      try simp only [Act.put, List.setIfInBounds_toArray, List.set_cons_zero, List.set_cons_succ]
      refine wpAnyH_take (i := 8) (oi := ⟨some 26, _, _, _, _, none⟩) (v := ?_) rfl (by kernel_rfl) (by kernel_rfl) (by kernel_rfl) (fun _ _ _ h => h) (Or.inl ⟨by rfl, ?_⟩) (by assumption) ?_
      rotate_left
      · intro w hSw; go_simp; try with_reducible rfl
      try simp only [Act.put, List.setIfInBounds_toArray, List.set_cons_zero, List.set_cons_succ]
      refine wpAnyH_ready (rs := [9]) (by kernel_rfl) (by simp) ?_
      refine AllReadyH.cons (o := ⟨some 6, .alloc _, _, _, _, none⟩) rfl (fun K hK => ?_) AllReadyH.nil
      refine step_new 32 (by rfl) (by rfl) zeroRq16 ?_
      intro g5 w5 hg5 hgl5 hb5 hB5
      have hg5w : w2.heap.size ≤ g5 := Nat.le_trans hHeld.size hg5
      refine hK.out _ _ (hHeld.belowR hB5) (fun hHeld => ?_)
      clear hK K
      try simp only [Act.put, List.setIfInBounds_toArray, List.set_cons_zero, List.set_cons_succ]
      refine wpAnyH_ready (rs := [10]) (by kernel_rfl) (by simp) ?_
      refine AllReadyH.cons (o := ⟨none, _, _, _, _, none⟩) rfl (fun K hK => ?_) AllReadyH.nil
      refine step_st 32 (.tmp 6) (.tmp 25) (by rfl) (by rfl) (by rfl) (f := 0) (by rfl) (l := zRq16) (by rfl) hb5 (by first | exact Nat.le_refl _ | (rw [len_l]; exact Nat.le_refl _)) (by first | exact sizeRq16 | (rw [len_l]; exact sizeRq16)) (by decide) ?_
      intro w10 hb10 hG10
      refine hK.out _ _ (hHeld.grow hG10 (fun k hk => .inr (by injection hk with hk; omega))) (fun hHeld => ?_)
      clear hK K
      try simp only [Act.put, List.setIfInBounds_toArray, List.set_cons_zero, List.set_cons_succ]
      refine wpAnyH_take (i := 11) (oi := ⟨some 7, _, _, _, _, none⟩) (v := ?_) rfl (by kernel_rfl) (by kernel_rfl) (by kernel_rfl) (fun _ _ _ h => h) (Or.inl ⟨by rfl, ?_⟩) (by assumption) ?_
      rotate_left
      · intro w hSw; go_simp; try with_reducible rfl
      try simp only [Act.put, List.setIfInBounds_toArray, List.set_cons_zero, List.set_cons_succ]
      refine wpAnyH_done (by kernel_rfl) ?_ _
      refine NoPanic.normal ?_
      have hB3 := hBw.trans (hHeld.below.mono hBw.size)
      have hm3 := hm.below hHeld.below
      have hK3 := hK0.below hHeld.below
      have hV3 := hV.below hHeld.below
      have hu3 := hu.below hHeld.below
      have hc3 := hm3.blk.cellAt 0 _ rfl
      have Hq := hid hq
      clear HC HK hHeld hq hmp hm hK0 hV hu hG10 hb10 hb5 hB5
      by_cases h12 : 12 ≤ l.length
      · have hI : (l.length : Int) ≥ 12 := by omega
        have HE4 := hid (HE.out.trans (if_pos h12))
        clear hm3 hK3 hV3 hu3
        go_wp2
        go_ret
        rw [E1.out (by rw [HE4.out]; decide), HE4.out]
        exact ⟨rfl, M, Hsame.out _ hB3⟩
      have hI : ¬ (l.length : Int) ≥ 12 := by omega
      have HE0 := hid (HE.out.trans (if_neg h12))
      go_wp2
      go_upto_region 11 with (fail)
      have hbd := hm3.blk.drew
      have hkd := hK3.drew
      have hrd := hm3.row
      have hcd := hbd.cellAt 0 _ rfl
      have hca := (hbd.alloc (.cells [Value.int .i64 s.1.1, .int .i64 s.1.2].toArray 60)).cellAt 0 _ rfl
      obtain ⟨wq, hwq⟩ : ∃ x, x = w10 := ⟨_, rfl⟩
      rw [← hwq] at hbd hkd hrd hcd hca hm3 hK3 hV3 hu3 hB3 ⊢
      clear hwq
      have hrd : wq.drew.ownsRow 0 60 2 (.slice Ao l.length co) l.length (K2.rows (l.map ky16)) := own_keepO hrd (fun k _ _ => rfl)
      refine wp_region_noPanic ?_
      refine wp_region_any (by kernel_rfl) ?_
      change wpAny _ _ _ _ _ _ _ (World.drew _)
      refine wpAny_take (i := 0) (oi := ⟨some 34, _, _, _, _, none⟩) (v := ?_) rfl (by kernel_rfl) (by kernel_rfl) (by kernel_rfl) (fun _ _ _ h => h) (Or.inl ⟨by rfl, ?_⟩) ?_
      rotate_left
      · intro w; go_simp; try with_reducible rfl
      try simp only [Act.put, List.setIfInBounds_toArray, List.set_cons_zero, List.set_cons_succ]
      refine wpAny_take (i := 1) (oi := ⟨some 35, _, _, _, _, none⟩) (v := ?_) rfl (by kernel_rfl) (by kernel_rfl) (by kernel_rfl) (fun _ _ _ h => h) (Or.inl ⟨by rfl, ?_⟩) ?_
      rotate_left
      · intro w; go_simp; try with_reducible rfl
      try simp only [Act.put, List.setIfInBounds_toArray, List.set_cons_zero, List.set_cons_succ]
      refine wpAny_take (i := 2) (oi := ⟨some 36, _, _, _, _, none⟩) (v := ?_) rfl (by kernel_rfl) (by kernel_rfl) (by kernel_rfl) (fun _ _ _ h => h) (Or.inl ⟨by rfl, ?_⟩) ?_
      rotate_left
      · intro w; go_simp; try with_reducible rfl
      try simp only [Act.put, List.setIfInBounds_toArray, List.set_cons_zero, List.set_cons_succ]
      refine wpAny_take (i := 3) (oi := ⟨some 37, _, _, _, _, none⟩) (v := ?_) rfl (by kernel_rfl) (by kernel_rfl) (by kernel_rfl) (fun _ _ _ h => h) (Or.inl ⟨by rfl, ?_⟩) ?_
      rotate_left
      · intro w; go_simp; try with_reducible rfl
      try simp only [Act.put, List.setIfInBounds_toArray, List.set_cons_zero, List.set_cons_succ]
      refine wpAny_ready (rs := [4, 5]) (by kernel_rfl) (by simp) ?_
      refine AllReady.cons (o := ⟨some 38, .load 56 _, _, _, _, none⟩) rfl (fun K hK => ?_) ?_
      · refine step_ld1 56 (.tmp 37) (by rfl) (by rfl) (ad := ⟨p, 0, none⟩) (by rfl) hcd (fun W => by kernel_rfl) ?_
        refine hK _ _ ?_
        clear hK K
        try simp only [Act.put, List.setIfInBounds_toArray, List.set_cons_zero, List.set_cons_succ]
        refine wpAny_ready (rs := [5]) (by kernel_rfl) (by simp) ?_
        refine AllReady.cons (o := ⟨some 39, .load 60 _, _, _, _, none⟩) rfl (fun K hK => ?_) AllReady.nil
        refine step_ld 60 (.tmp 5) (by rfl) (by rfl) (by rfl) hkd.whole Try.underlying60 rfl sizePl ?_
        refine hK _ _ ?_
        clear hK K
        try simp only [Act.put, List.setIfInBounds_toArray, List.set_cons_zero, List.set_cons_succ]
        refine wpAny_ready (rs := [6]) (by kernel_rfl) (by simp) ?_
        refine AllReady.cons (o := ⟨some 40, .buildSlice _ _ _, _, _, _, none⟩) rfl (fun K hK => ?_) AllReady.nil
        refine step_bsW (.tmp 39) slPl (by rfl) (by rfl) (us := [.int .i64 s.1.1, .int .i64 s.1.2]) (by rfl) (by rfl) ?_
        refine hK _ _ ?_
        clear hK K
        try simp only [Act.put, List.setIfInBounds_toArray, List.set_cons_zero, List.set_cons_succ]
        refine wpAny_ready (rs := [7]) (by kernel_rfl) (by simp) ?_
        refine AllReady.cons (o := ⟨some 41, _, _, _, _, none⟩) rfl (fun K hK => ?_) AllReady.nil
        refine step_appW13 (.tmp 38) (.tmp 40) slPl (by rfl) (by rfl) (us := [.int .i64 s.1.1, .int .i64 s.1.2]) (by rfl) hone (by rfl) hrd (by rfl) (by simp only [maxLen]; omega) (by omega) (Nat.zero_le _) ?_
        intro v9 w9 ho9 hG9 hd9
        obtain ⟨A9, c9, rfl⟩ := own_shapeW ho9
        have hb9 := hbd.keep (hG9.block p hbd.lt (by intro h; exact hpr h.symm))
        refine hK _ _ ?_
        clear hK K
        try simp only [Act.put, List.setIfInBounds_toArray, List.set_cons_zero, List.set_cons_succ]
        refine wpAny_take (i := 8) (oi := ⟨some 42, _, _, _, _, none⟩) (v := ?_) rfl (by kernel_rfl) (by kernel_rfl) (by kernel_rfl) (fun _ _ _ h => h) (Or.inl ⟨by rfl, ?_⟩) ?_
        rotate_left
        · intro w; go_simp; try with_reducible rfl
        try simp only [Act.put, List.setIfInBounds_toArray, List.set_cons_zero, List.set_cons_succ]
        refine wpAny_take (i := 9) (oi := ⟨some 43, _, _, _, _, none⟩) (v := ?_) rfl (by kernel_rfl) (by kernel_rfl) (by kernel_rfl) (fun _ _ _ h => h) (Or.inl ⟨by rfl, ?_⟩) ?_
        rotate_left
        · intro w; go_simp; try with_reducible rfl
        try simp only [Act.put, List.setIfInBounds_toArray, List.set_cons_zero, List.set_cons_succ]
        refine wpAny_ready (rs := [10]) (by kernel_rfl) (by simp) ?_
        refine AllReady.cons (o := ⟨none, _, _, _, _, none⟩) rfl (fun K hK => ?_) AllReady.nil
        refine step_st1 56 (.tmp 43) (.tmp 41) (by rfl) (by rfl) (by rfl) (f := 0) (by rfl) (v := .slice A9 (l.length + 1) c9) (by rfl) hb9 (by simp) sizeSp (by rfl) (by rfl) ?_
        intro w11 hb11 hG11
        refine hK _ _ ?_
        clear hK K
        try simp only [Act.put, List.setIfInBounds_toArray, List.set_cons_zero, List.set_cons_succ]
        refine wpAny_done (by kernel_rfl) ?_ _
        refine NoPanic.normal ?_
        have hdw : Below wq.heap.size wq wq.drew := (Below.refl _ _).drew
        have hC9 : Ch (fun x => x = p ∨ (Value.slice Ao l.length co).ownBlock = some x) wq w11 := (((Ch.refl _ _).belowR hdw).grow hG9 (fun k hk => .inl (.inr hk))).grow hG11 (fun k hk => .inl (.inl (by injection hk with hk; exact hk.symm)))
        have hnp9 : ∀ k, (Value.slice A9 (l.length + 1) c9).ownBlock = some k → k ≠ p := fun k hk e => by
          subst e
          rcases hd9 with h | ⟨g, h, hg⟩
          · rw [h] at hk; exact hpr hk
          · rw [h] at hk; injection hk with hk; subst hk; have := hm3.blk.lt; have h' : wq.heap.size ≤ g := hg; omega
        have hrow := own_keepO ho9 (w' := w11) (fun k hk e => hG11.block k hk (fun h => hnp9 k e (Option.some.inj h)))
        have hneb9 : ∀ k, (Value.slice A9 (l.length + 1) c9).ownBlock = some k → k ≠ b ∧ ¬ Fs k ∧ ((Value.slice Ao l.length co).ownBlock = some k ∨ wq.heap.size ≤ k) := fun k hk => by
          rcases hd9 with h | ⟨g, h, hg⟩
          · rw [h] at hk
            exact ⟨fun e => hm3.br (by rw [← e]; exact hk), fun hF => (hm3.f k hF).2.2.1 hk, .inl hk⟩
          · rw [h] at hk; injection hk with hk; subst hk
            have h' : wq.heap.size ≤ g := hg
            have := hm3.map.lt
            exact ⟨by omega, fun hF => by have := (hm3.f g hF).2.2.2; omega, .inr h'⟩
        have hmp3 : MS qM w11 Fs b (ent l) := hm3.map.keep (hC9.block b hm3.map.lt (by rintro (h | h); exact hm3.pb h.symm; exact hm3.br h)) (fun x hx hF => ⟨hF, hC9.block x hx (by rintro (h | h); exact (hm3.f x hF).1 h; exact (hm3.f x hF).2.2.1 h)⟩)
        have hK4 := hK3.ch hC9 (by rintro (h | h); exact hkp h; have := hko gk h; omega)
        have hV4 := hV3.ch hC9 (by rintro (h | h); exact hvp h; exact blk_row hV3 hm3.row (by decide) h.symm)
        have hu4 := hu3.ch hC9 (by rintro x hx (h | h); exact hGM x hx ((hM x).2 (.inl h)); exact hGM x hx ((hM x).2 (.inr (.inr (.inl h)))))
        have hBlk : Blk w11 p 58 [.slice A9 (l.length + 1) c9, .map (some b)] := hb11
        have hs11 := hC9.size
        have hfu := hm3.f
        have hqin := hm3.qin
        have hpb := hm3.pb
        have hml := hm3.map.lt
        have hplt := hm3.blk.lt
        obtain ⟨w3, hw3⟩ : ∃ x, x = w11 := ⟨_, rfl⟩
        rw [← hw3] at hC9 hrow hmp3 hK4 hV4 hu4 hBlk hs11 ⊢
        have Hrow := hid hrow
        have Hneb9 := hid hneb9
        have Hnp9 := hid hnp9
        have Hfu := hid hfu
        clear hw3 hG11 hb11 hG9 ho9 hd9 hb9 hca hcd hrd hbd hkd hK3 hV3 hu3 hm3 hdw hrow hneb9 hnp9 hfu hc3
        go_wp2
        go_upto_region 12 with (fail)
        have hu3 := hu4
        have hblt := hmp3.lt
        have HC : Hid (∀ W, Ch (fun x => x = b) w3 W → W.cell? ⟨p, 1, none⟩ = some (.map (some b))) := hid fun W hc => (hBlk.ch hc hpb).cellAt 1 _ rfl
        have HK : Hid (∀ W, Ch (fun x => x = b) w3 W → W.rangeAt gk 0 [Value.int .i64 s.1.1, Value.int .i64 s.1.2]) := hid fun W hc => (hK4.ch hc hkb).whole
        have HV : Hid (∀ W, Ch (fun x => x = b) w3 W → W.rangeAt gv 0 lr) := hid fun W hc => (hV4.ch hc hvb).whole
        have hGb : ∀ x, G x → ¬ x = b := fun x hx e => hGM x hx ((hM x).2 (.inr (.inl e)))
        have hFb2 : ¬ (Fs b ∨ w3.heap.size ≤ b) := by rintro (h | h); exact (Hfu.out b h).2.1 rfl; omega
        refine wp_region_noPanic ?_
        refine wp_region_held_drew (S := Ch (fun x => x = b) w3) (by kernel_rfl) ((Ch.refl _ _).drew) (fun hHeld => ?_)
        refine wpAnyH_take (i := 0) (oi := ⟨some 44, _, _, _, _, none⟩) (v := ?_) rfl (by kernel_rfl) (by kernel_rfl) (by kernel_rfl) (fun _ _ _ h => h) (Or.inl ⟨by rfl, ?_⟩) (by assumption) ?_
        rotate_left
        · intro w hSw; go_simp; try with_reducible rfl
        try simp only [Act.put, List.setIfInBounds_toArray, List.set_cons_zero, List.set_cons_succ]
        refine wpAnyH_take (i := 1) (oi := ⟨some 45, _, _, _, _, none⟩) (v := ?_) rfl (by kernel_rfl) (by kernel_rfl) (by kernel_rfl) (fun _ _ _ h => h) (Or.inl ⟨by rfl, ?_⟩) (by assumption) ?_
        rotate_left
        · intro w hSw; go_simp; try with_reducible rfl
        try simp only [Act.put, List.setIfInBounds_toArray, List.set_cons_zero, List.set_cons_succ]
        refine wpAnyH_take (i := 2) (oi := ⟨some 46, _, _, _, _, none⟩) (v := ?_) rfl (by kernel_rfl) (by kernel_rfl) (by kernel_rfl) (fun _ _ _ h => h) (Or.inl ⟨by rfl, ?_⟩) (by assumption) ?_
        rotate_left
        · intro w hSw; go_simp; try with_reducible rfl
        try simp only [Act.put, List.setIfInBounds_toArray, List.set_cons_zero, List.set_cons_succ]
        refine wpAnyH_take (i := 3) (oi := ⟨some 47, _, _, _, _, none⟩) (v := ?_) rfl (by kernel_rfl) (by kernel_rfl) (by kernel_rfl) (fun _ _ _ h => h) (Or.inl ⟨by rfl, ?_⟩) (by assumption) ?_
        rotate_left
        · intro w hSw; have hcw := HC.out w hSw; go_simp; try with_reducible rfl
        try simp only [Act.put, List.setIfInBounds_toArray, List.set_cons_zero, List.set_cons_succ]
        refine wpAnyH_take (i := 4) (oi := ⟨some 48, .load 60 (.tmp 5), _, _, _, none⟩) (v := _) rfl (by kernel_rfl) (by kernel_rfl) (by kernel_rfl) (fun _ _ _ h => h) (yieldsIf_load_mid (by rfl) 60 (.tmp 5) (by rfl) _ (0) (by rfl) _ _ (fun _ hs => HK.out _ hs) Try.underlying60 rfl (sizePl)) (by assumption) ?_
        try simp only [Act.put, List.setIfInBounds_toArray, List.set_cons_zero, List.set_cons_succ]
        refine wpAnyH_take (i := 5) (oi := ⟨some 49, .load 32 (.tmp 3), _, _, _, none⟩) (v := _) rfl (by kernel_rfl) (by kernel_rfl) (by kernel_rfl) (fun _ _ _ h => h) (yieldsIf_load_mid (by rfl) 32 (.tmp 3) (by rfl) _ (0) (by rfl) _ _ (fun _ hs => HV.out _ hs) Try.underlying32 rfl (by rw [Hlr.out]; exact sizeRq16)) (by assumption) ?_
        try simp only [Act.put, List.setIfInBounds_toArray, List.set_cons_zero, List.set_cons_succ]
        refine wpAnyH_ready (rs := [6]) (by kernel_rfl) (by simp) ?_
        refine AllReadyH.cons (o := ⟨some 50, _, _, _, _, none⟩) rfl (fun K hK => ?_) AllReadyH.nil
        go_simp
        refine (Hcp.out _ (hu3.ch hHeld hGb)).mono ?_
        rintro e' w6 ⟨u6, rfl, hr6, hB6⟩
        have hs6 := hHeld.size
        have hC6 := hHeld.belowR hB6
        have hM6 := ((hmp3.keep (w' := w3.drew) rfl (fun x _ h => ⟨h, rfl⟩)).below hB6).weak (F' := fun x => Fs x ∨ w3.heap.size ≤ x) (fun x _ h => .inl h)
        have hv6 : qM.V w6 (fun x => Fs x ∨ w3.heap.size ≤ x) (.agg (r.l u6).toArray) r := ⟨_, rfl, hr6.weak (fun x _ h => .inr (Nat.le_trans hs6 h))⟩
        refine hK.out _ _ (hC6) (fun hHeld => ?_)
        clear hK K
        try simp only [Act.put, List.setIfInBounds_toArray, List.set_cons_zero, List.set_cons_succ]
        refine wpAnyH_ready (rs := [7]) (by kernel_rfl) (by simp) ?_
        refine AllReadyH.cons (o := ⟨none, _, _, _, _, none⟩) rfl (fun K hK => ?_) AllReadyH.nil
        refine step_putS 55 32 (.tmp 47) (.tmp 48) (.tmp 50) (by rfl) (by rfl) Try.underlying55 (by rfl) hM6 (by rw [ent_len]; simp only [maxLen]; omega) (s := s) (by rfl) (by rfl) hv6 hFb2 ?_
        intro w7 hM7 hG7 hs7
        refine hK.out _ _ (hC6.grow hG7 (fun k hk => .inl (by injection hk with hk; exact hk.symm))) (fun hHeld => ?_)
        clear hK K
        try simp only [Act.put]
        refine wpAnyH_done (by kernel_rfl) ?_ _
        refine NoPanic.normal ?_
        have hC7 := hC9.trans' hHeld
        have hBlk7 := hBlk.ch hHeld hpb
        have hrow7 := own_keepO Hrow.out (w' := w7) (fun k hk e => hHeld.block k hk (Hneb9.out k e).1)
        have hs7' := hHeld.size
        clear HC HK HV hHeld hmp3 hBlk hK4 hV4 hu4 hu3 hM6 hG7 hr6 hv6 hB6 hC6
        go_wp2
        go_ret
        rw [E0.out HE0.out, HE0.out]
        refine ⟨rfl, _, ⟨⟨p, b, .slice A9 (l.length + 1) c9, fun x => Fs x ∨ (w3.heap.size ≤ x ∧ x < w7.heap.size), rfl, ⟨hBlk7, ?_, ?_, Hqa.out HE0.out, hpb, fun h => (Hneb9.out b h).1 rfl, ?_⟩, fun x => Iff.rfl⟩, ?_, ?_⟩⟩
        · rw [List.length_append, List.map_append, rows_app]
          rw [show [r].map ky16 = [s] from by rw [Hs.out]; rfl]
          exact hrow7
        · refine (hM7.perm ?_).weak (fun x hx h => by rcases h with h | h; exact .inl h; exact .inr ⟨h, hx⟩)
          rw [Hs.out]
          exact ent_put (by rw [← Hs.out]; exact Hq.out)
        · rintro x (h | ⟨h, h'⟩)
          · have := Hfu.out x h
            exact ⟨this.1, this.2.1, fun e => (Hneb9.out x e).2.1 h, by omega⟩
          · refine ⟨by omega, by omega, fun e => ?_, h'⟩
            have := (Hrow.out.lt x e).2
            omega
        · rintro x (rfl | rfl | h | h | ⟨h, h'⟩)
          · exact .inl ((hM _).2 (.inl rfl))
          · exact .inl ((hM _).2 (.inr (.inl rfl)))
          · rcases (Hneb9.out x h).2.2 with h' | h'
            · exact .inl ((hM x).2 (.inr (.inr (.inl h'))))
            · exact .inr (Nat.le_trans hB3.size h')
          · exact .inl ((hM x).2 (.inr (.inr (.inr h))))
          · exact .inr (Nat.le_trans (Nat.le_trans hB3.size hs11) h)
        · refine (((Ch.refl M w).belowR hB3).trans (hC7.weaken ?_))
          rintro x _ (h | h)
          · rcases h with h | h
            · exact (hM x).2 (.inl h)
            · exact (hM x).2 (.inr (.inr (.inl h)))
          · exact (hM x).2 (.inr (.inl h))
      refine AllReady.cons (o := ⟨some 39, .load 60 _, _, _, _, none⟩) rfl (fun K hK => ?_) AllReady.nil
      refine step_ld 60 (.tmp 5) (by rfl) (by rfl) (by rfl) hkd.whole Try.underlying60 rfl sizePl ?_
      refine hK _ _ ?_
      clear hK K
      try simp only [Act.put, List.setIfInBounds_toArray, List.set_cons_zero, List.set_cons_succ]
      refine wpAny_ready (rs := [4, 6]) (by kernel_rfl) (by simp) ?_
      refine AllReady.cons (o := ⟨some 38, .load 56 _, _, _, _, none⟩) rfl (fun K hK => ?_) ?_
      · refine step_ld1 56 (.tmp 37) (by rfl) (by rfl) (ad := ⟨p, 0, none⟩) (by rfl) hcd (fun W => by kernel_rfl) ?_
        refine hK _ _ ?_
        clear hK K
        try simp only [Act.put, List.setIfInBounds_toArray, List.set_cons_zero, List.set_cons_succ]
        refine wpAny_ready (rs := [6]) (by kernel_rfl) (by simp) ?_
        refine AllReady.cons (o := ⟨some 40, .buildSlice _ _ _, _, _, _, none⟩) rfl (fun K hK => ?_) AllReady.nil
        refine step_bsW (.tmp 39) slPl (by rfl) (by rfl) (us := [.int .i64 s.1.1, .int .i64 s.1.2]) (by rfl) (by rfl) ?_
        refine hK _ _ ?_
        clear hK K
        try simp only [Act.put, List.setIfInBounds_toArray, List.set_cons_zero, List.set_cons_succ]
        refine wpAny_ready (rs := [7]) (by kernel_rfl) (by simp) ?_
        refine AllReady.cons (o := ⟨some 41, _, _, _, _, none⟩) rfl (fun K hK => ?_) AllReady.nil
        refine step_appW13 (.tmp 38) (.tmp 40) slPl (by rfl) (by rfl) (us := [.int .i64 s.1.1, .int .i64 s.1.2]) (by rfl) hone (by rfl) hrd (by rfl) (by simp only [maxLen]; omega) (by omega) (Nat.zero_le _) ?_
        intro v9 w9 ho9 hG9 hd9
        obtain ⟨A9, c9, rfl⟩ := own_shapeW ho9
        have hb9 := hbd.keep (hG9.block p hbd.lt (by intro h; exact hpr h.symm))
        refine hK _ _ ?_
        clear hK K
        try simp only [Act.put, List.setIfInBounds_toArray, List.set_cons_zero, List.set_cons_succ]
        refine wpAny_take (i := 8) (oi := ⟨some 42, _, _, _, _, none⟩) (v := ?_) rfl (by kernel_rfl) (by kernel_rfl) (by kernel_rfl) (fun _ _ _ h => h) (Or.inl ⟨by rfl, ?_⟩) ?_
        rotate_left
        · intro w; go_simp; try with_reducible rfl
        try simp only [Act.put, List.setIfInBounds_toArray, List.set_cons_zero, List.set_cons_succ]
        refine wpAny_take (i := 9) (oi := ⟨some 43, _, _, _, _, none⟩) (v := ?_) rfl (by kernel_rfl) (by kernel_rfl) (by kernel_rfl) (fun _ _ _ h => h) (Or.inl ⟨by rfl, ?_⟩) ?_
        rotate_left
        · intro w; go_simp; try with_reducible rfl
        try simp only [Act.put, List.setIfInBounds_toArray, List.set_cons_zero, List.set_cons_succ]
        refine wpAny_ready (rs := [10]) (by kernel_rfl) (by simp) ?_
        refine AllReady.cons (o := ⟨none, _, _, _, _, none⟩) rfl (fun K hK => ?_) AllReady.nil
        refine step_st1 56 (.tmp 43) (.tmp 41) (by rfl) (by rfl) (by rfl) (f := 0) (by rfl) (v := .slice A9 (l.length + 1) c9) (by rfl) hb9 (by simp) sizeSp (by rfl) (by rfl) ?_
        intro w11 hb11 hG11
        refine hK _ _ ?_
        clear hK K
        try simp only [Act.put, List.setIfInBounds_toArray, List.set_cons_zero, List.set_cons_succ]
        refine wpAny_done (by kernel_rfl) ?_ _
        refine NoPanic.normal ?_
        have hdw : Below wq.heap.size wq wq.drew := (Below.refl _ _).drew
        have hC9 : Ch (fun x => x = p ∨ (Value.slice Ao l.length co).ownBlock = some x) wq w11 := (((Ch.refl _ _).belowR hdw).grow hG9 (fun k hk => .inl (.inr hk))).grow hG11 (fun k hk => .inl (.inl (by injection hk with hk; exact hk.symm)))
        have hnp9 : ∀ k, (Value.slice A9 (l.length + 1) c9).ownBlock = some k → k ≠ p := fun k hk e => by
          subst e
          rcases hd9 with h | ⟨g, h, hg⟩
          · rw [h] at hk; exact hpr hk
          · rw [h] at hk; injection hk with hk; subst hk; have := hm3.blk.lt; have h' : wq.heap.size ≤ g := hg; omega
        have hrow := own_keepO ho9 (w' := w11) (fun k hk e => hG11.block k hk (fun h => hnp9 k e (Option.some.inj h)))
        have hneb9 : ∀ k, (Value.slice A9 (l.length + 1) c9).ownBlock = some k → k ≠ b ∧ ¬ Fs k ∧ ((Value.slice Ao l.length co).ownBlock = some k ∨ wq.heap.size ≤ k) := fun k hk => by
          rcases hd9 with h | ⟨g, h, hg⟩
          · rw [h] at hk
            exact ⟨fun e => hm3.br (by rw [← e]; exact hk), fun hF => (hm3.f k hF).2.2.1 hk, .inl hk⟩
          · rw [h] at hk; injection hk with hk; subst hk
            have h' : wq.heap.size ≤ g := hg
            have := hm3.map.lt
            exact ⟨by omega, fun hF => by have := (hm3.f g hF).2.2.2; omega, .inr h'⟩
        have hmp3 : MS qM w11 Fs b (ent l) := hm3.map.keep (hC9.block b hm3.map.lt (by rintro (h | h); exact hm3.pb h.symm; exact hm3.br h)) (fun x hx hF => ⟨hF, hC9.block x hx (by rintro (h | h); exact (hm3.f x hF).1 h; exact (hm3.f x hF).2.2.1 h)⟩)
        have hK4 := hK3.ch hC9 (by rintro (h | h); exact hkp h; have := hko gk h; omega)
        have hV4 := hV3.ch hC9 (by rintro (h | h); exact hvp h; exact blk_row hV3 hm3.row (by decide) h.symm)
        have hu4 := hu3.ch hC9 (by rintro x hx (h | h); exact hGM x hx ((hM x).2 (.inl h)); exact hGM x hx ((hM x).2 (.inr (.inr (.inl h)))))
        have hBlk : Blk w11 p 58 [.slice A9 (l.length + 1) c9, .map (some b)] := hb11
        have hs11 := hC9.size
        have hfu := hm3.f
        have hqin := hm3.qin
        have hpb := hm3.pb
        have hml := hm3.map.lt
        have hplt := hm3.blk.lt
        obtain ⟨w3, hw3⟩ : ∃ x, x = w11 := ⟨_, rfl⟩
        rw [← hw3] at hC9 hrow hmp3 hK4 hV4 hu4 hBlk hs11 ⊢
        have Hrow := hid hrow
        have Hneb9 := hid hneb9
        have Hnp9 := hid hnp9
        have Hfu := hid hfu
        clear hw3 hG11 hb11 hG9 ho9 hd9 hb9 hca hcd hrd hbd hkd hK3 hV3 hu3 hm3 hdw hrow hneb9 hnp9 hfu hc3
        go_wp2
        go_upto_region 12 with (fail)
        have hu3 := hu4
        have hblt := hmp3.lt
        have HC : Hid (∀ W, Ch (fun x => x = b) w3 W → W.cell? ⟨p, 1, none⟩ = some (.map (some b))) := hid fun W hc => (hBlk.ch hc hpb).cellAt 1 _ rfl
        have HK : Hid (∀ W, Ch (fun x => x = b) w3 W → W.rangeAt gk 0 [Value.int .i64 s.1.1, Value.int .i64 s.1.2]) := hid fun W hc => (hK4.ch hc hkb).whole
        have HV : Hid (∀ W, Ch (fun x => x = b) w3 W → W.rangeAt gv 0 lr) := hid fun W hc => (hV4.ch hc hvb).whole
        have hGb : ∀ x, G x → ¬ x = b := fun x hx e => hGM x hx ((hM x).2 (.inr (.inl e)))
        have hFb2 : ¬ (Fs b ∨ w3.heap.size ≤ b) := by rintro (h | h); exact (Hfu.out b h).2.1 rfl; omega
        refine wp_region_noPanic ?_
        refine wp_region_held_drew (S := Ch (fun x => x = b) w3) (by kernel_rfl) ((Ch.refl _ _).drew) (fun hHeld => ?_)
        refine wpAnyH_take (i := 0) (oi := ⟨some 44, _, _, _, _, none⟩) (v := ?_) rfl (by kernel_rfl) (by kernel_rfl) (by kernel_rfl) (fun _ _ _ h => h) (Or.inl ⟨by rfl, ?_⟩) (by assumption) ?_
        rotate_left
        · intro w hSw; go_simp; try with_reducible rfl
        try simp only [Act.put, List.setIfInBounds_toArray, List.set_cons_zero, List.set_cons_succ]
        refine wpAnyH_take (i := 1) (oi := ⟨some 45, _, _, _, _, none⟩) (v := ?_) rfl (by kernel_rfl) (by kernel_rfl) (by kernel_rfl) (fun _ _ _ h => h) (Or.inl ⟨by rfl, ?_⟩) (by assumption) ?_
        rotate_left
        · intro w hSw; go_simp; try with_reducible rfl
        try simp only [Act.put, List.setIfInBounds_toArray, List.set_cons_zero, List.set_cons_succ]
        refine wpAnyH_take (i := 2) (oi := ⟨some 46, _, _, _, _, none⟩) (v := ?_) rfl (by kernel_rfl) (by kernel_rfl) (by kernel_rfl) (fun _ _ _ h => h) (Or.inl ⟨by rfl, ?_⟩) (by assumption) ?_
        rotate_left
        · intro w hSw; go_simp; try with_reducible rfl
        try simp only [Act.put, List.setIfInBounds_toArray, List.set_cons_zero, List.set_cons_succ]
        refine wpAnyH_take (i := 3) (oi := ⟨some 47, _, _, _, _, none⟩) (v := ?_) rfl (by kernel_rfl) (by kernel_rfl) (by kernel_rfl) (fun _ _ _ h => h) (Or.inl ⟨by rfl, ?_⟩) (by assumption) ?_
        rotate_left
        · intro w hSw; have hcw := HC.out w hSw; go_simp; try with_reducible rfl
        try simp only [Act.put, List.setIfInBounds_toArray, List.set_cons_zero, List.set_cons_succ]
        refine wpAnyH_take (i := 4) (oi := ⟨some 48, .load 60 (.tmp 5), _, _, _, none⟩) (v := _) rfl (by kernel_rfl) (by kernel_rfl) (by kernel_rfl) (fun _ _ _ h => h) (yieldsIf_load_mid (by rfl) 60 (.tmp 5) (by rfl) _ (0) (by rfl) _ _ (fun _ hs => HK.out _ hs) Try.underlying60 rfl (sizePl)) (by assumption) ?_
        try simp only [Act.put, List.setIfInBounds_toArray, List.set_cons_zero, List.set_cons_succ]
        refine wpAnyH_take (i := 5) (oi := ⟨some 49, .load 32 (.tmp 3), _, _, _, none⟩) (v := _) rfl (by kernel_rfl) (by kernel_rfl) (by kernel_rfl) (fun _ _ _ h => h) (yieldsIf_load_mid (by rfl) 32 (.tmp 3) (by rfl) _ (0) (by rfl) _ _ (fun _ hs => HV.out _ hs) Try.underlying32 rfl (by rw [Hlr.out]; exact sizeRq16)) (by assumption) ?_
        try simp only [Act.put, List.setIfInBounds_toArray, List.set_cons_zero, List.set_cons_succ]
        refine wpAnyH_ready (rs := [6]) (by kernel_rfl) (by simp) ?_
        refine AllReadyH.cons (o := ⟨some 50, _, _, _, _, none⟩) rfl (fun K hK => ?_) AllReadyH.nil
        go_simp
        refine (Hcp.out _ (hu3.ch hHeld hGb)).mono ?_
        rintro e' w6 ⟨u6, rfl, hr6, hB6⟩
        have hs6 := hHeld.size
        have hC6 := hHeld.belowR hB6
        have hM6 := ((hmp3.keep (w' := w3.drew) rfl (fun x _ h => ⟨h, rfl⟩)).below hB6).weak (F' := fun x => Fs x ∨ w3.heap.size ≤ x) (fun x _ h => .inl h)
        have hv6 : qM.V w6 (fun x => Fs x ∨ w3.heap.size ≤ x) (.agg (r.l u6).toArray) r := ⟨_, rfl, hr6.weak (fun x _ h => .inr (Nat.le_trans hs6 h))⟩
        refine hK.out _ _ (hC6) (fun hHeld => ?_)
        clear hK K
        try simp only [Act.put, List.setIfInBounds_toArray, List.set_cons_zero, List.set_cons_succ]
        refine wpAnyH_ready (rs := [7]) (by kernel_rfl) (by simp) ?_
        refine AllReadyH.cons (o := ⟨none, _, _, _, _, none⟩) rfl (fun K hK => ?_) AllReadyH.nil
        refine step_putS 55 32 (.tmp 47) (.tmp 48) (.tmp 50) (by rfl) (by rfl) Try.underlying55 (by rfl) hM6 (by rw [ent_len]; simp only [maxLen]; omega) (s := s) (by rfl) (by rfl) hv6 hFb2 ?_
        intro w7 hM7 hG7 hs7
        refine hK.out _ _ (hC6.grow hG7 (fun k hk => .inl (by injection hk with hk; exact hk.symm))) (fun hHeld => ?_)
        clear hK K
        try simp only [Act.put]
        refine wpAnyH_done (by kernel_rfl) ?_ _
        refine NoPanic.normal ?_
        have hC7 := hC9.trans' hHeld
        have hBlk7 := hBlk.ch hHeld hpb
        have hrow7 := own_keepO Hrow.out (w' := w7) (fun k hk e => hHeld.block k hk (Hneb9.out k e).1)
        have hs7' := hHeld.size
        clear HC HK HV hHeld hmp3 hBlk hK4 hV4 hu4 hu3 hM6 hG7 hr6 hv6 hB6 hC6
        go_wp2
        go_ret
        rw [E0.out HE0.out, HE0.out]
        refine ⟨rfl, _, ⟨⟨p, b, .slice A9 (l.length + 1) c9, fun x => Fs x ∨ (w3.heap.size ≤ x ∧ x < w7.heap.size), rfl, ⟨hBlk7, ?_, ?_, Hqa.out HE0.out, hpb, fun h => (Hneb9.out b h).1 rfl, ?_⟩, fun x => Iff.rfl⟩, ?_, ?_⟩⟩
        · rw [List.length_append, List.map_append, rows_app]
          rw [show [r].map ky16 = [s] from by rw [Hs.out]; rfl]
          exact hrow7
        · refine (hM7.perm ?_).weak (fun x hx h => by rcases h with h | h; exact .inl h; exact .inr ⟨h, hx⟩)
          rw [Hs.out]
          exact ent_put (by rw [← Hs.out]; exact Hq.out)
        · rintro x (h | ⟨h, h'⟩)
          · have := Hfu.out x h
            exact ⟨this.1, this.2.1, fun e => (Hneb9.out x e).2.1 h, by omega⟩
          · refine ⟨by omega, by omega, fun e => ?_, h'⟩
            have := (Hrow.out.lt x e).2
            omega
        · rintro x (rfl | rfl | h | h | ⟨h, h'⟩)
          · exact .inl ((hM _).2 (.inl rfl))
          · exact .inl ((hM _).2 (.inr (.inl rfl)))
          · rcases (Hneb9.out x h).2.2 with h' | h'
            · exact .inl ((hM x).2 (.inr (.inr (.inl h'))))
            · exact .inr (Nat.le_trans hB3.size h')
          · exact .inl ((hM x).2 (.inr (.inr (.inr h))))
          · exact .inr (Nat.le_trans (Nat.le_trans hB3.size hs11) h)
        · refine (((Ch.refl M w).belowR hB3).trans (hC7.weaken ?_))
          rintro x _ (h | h)
          · rcases h with h | h
            · exact (hM x).2 (.inl h)
            · exact (hM x).2 (.inr (.inr (.inl h)))
          · exact (hM x).2 (.inr (.inl h))
      refine AllReady.cons (o := ⟨some 40, .buildSlice _ _ _, _, _, _, none⟩) rfl (fun K hK => ?_) AllReady.nil
      refine step_bsW (.tmp 39) slPl (by rfl) (by rfl) (us := [.int .i64 s.1.1, .int .i64 s.1.2]) (by rfl) (by rfl) ?_
      refine hK _ _ ?_
      clear hK K
      try simp only [Act.put, List.setIfInBounds_toArray, List.set_cons_zero, List.set_cons_succ]
      refine wpAny_ready (rs := [4]) (by kernel_rfl) (by simp) ?_
      refine AllReady.cons (o := ⟨some 38, .load 56 _, _, _, _, none⟩) rfl (fun K hK => ?_) AllReady.nil
      refine step_ld1 56 (.tmp 37) (by rfl) (by rfl) (ad := ⟨p, 0, none⟩) (by rfl) hca (fun W => by kernel_rfl) ?_
      refine hK _ _ ?_
      clear hK K
      try simp only [Act.put, List.setIfInBounds_toArray, List.set_cons_zero, List.set_cons_succ]
      refine wpAny_ready (rs := [7]) (by kernel_rfl) (by simp) ?_
      refine AllReady.cons (o := ⟨some 41, _, _, _, _, none⟩) rfl (fun K hK => ?_) AllReady.nil
      refine step_appW13 (.tmp 38) (.tmp 40) slPl (by rfl) (by rfl) (us := [.int .i64 s.1.1, .int .i64 s.1.2]) (by rfl) hone (by rfl) hrd (by rfl) (by simp only [maxLen]; omega) (by omega) (Nat.zero_le _) ?_
      intro v9 w9 ho9 hG9 hd9
      obtain ⟨A9, c9, rfl⟩ := own_shapeW ho9
      have hb9 := hbd.keep (hG9.block p hbd.lt (by intro h; exact hpr h.symm))
      refine hK _ _ ?_
      clear hK K
      try simp only [Act.put, List.setIfInBounds_toArray, List.set_cons_zero, List.set_cons_succ]
      refine wpAny_take (i := 8) (oi := ⟨some 42, _, _, _, _, none⟩) (v := ?_) rfl (by kernel_rfl) (by kernel_rfl) (by kernel_rfl) (fun _ _ _ h => h) (Or.inl ⟨by rfl, ?_⟩) ?_
      rotate_left
      · intro w; go_simp; try with_reducible rfl
      try simp only [Act.put, List.setIfInBounds_toArray, List.set_cons_zero, List.set_cons_succ]
      refine wpAny_take (i := 9) (oi := ⟨some 43, _, _, _, _, none⟩) (v := ?_) rfl (by kernel_rfl) (by kernel_rfl) (by kernel_rfl) (fun _ _ _ h => h) (Or.inl ⟨by rfl, ?_⟩) ?_
      rotate_left
      · intro w; go_simp; try with_reducible rfl
      try simp only [Act.put, List.setIfInBounds_toArray, List.set_cons_zero, List.set_cons_succ]
      refine wpAny_ready (rs := [10]) (by kernel_rfl) (by simp) ?_
      refine AllReady.cons (o := ⟨none, _, _, _, _, none⟩) rfl (fun K hK => ?_) AllReady.nil
      refine step_st1 56 (.tmp 43) (.tmp 41) (by rfl) (by rfl) (by rfl) (f := 0) (by rfl) (v := .slice A9 (l.length + 1) c9) (by rfl) hb9 (by simp) sizeSp (by rfl) (by rfl) ?_
      intro w11 hb11 hG11
      refine hK _ _ ?_
      clear hK K
      try simp only [Act.put, List.setIfInBounds_toArray, List.set_cons_zero, List.set_cons_succ]
      refine wpAny_done (by kernel_rfl) ?_ _
      refine NoPanic.normal ?_
      have hdw : Below wq.heap.size wq wq.drew := (Below.refl _ _).drew
      have hC9 : Ch (fun x => x = p ∨ (Value.slice Ao l.length co).ownBlock = some x) wq w11 := (((Ch.refl _ _).belowR hdw).grow hG9 (fun k hk => .inl (.inr hk))).grow hG11 (fun k hk => .inl (.inl (by injection hk with hk; exact hk.symm)))
      have hnp9 : ∀ k, (Value.slice A9 (l.length + 1) c9).ownBlock = some k → k ≠ p := fun k hk e => by
        subst e
        rcases hd9 with h | ⟨g, h, hg⟩
        · rw [h] at hk; exact hpr hk
        · rw [h] at hk; injection hk with hk; subst hk; have := hm3.blk.lt; have h' : wq.heap.size ≤ g := hg; omega
      have hrow := own_keepO ho9 (w' := w11) (fun k hk e => hG11.block k hk (fun h => hnp9 k e (Option.some.inj h)))
      have hneb9 : ∀ k, (Value.slice A9 (l.length + 1) c9).ownBlock = some k → k ≠ b ∧ ¬ Fs k ∧ ((Value.slice Ao l.length co).ownBlock = some k ∨ wq.heap.size ≤ k) := fun k hk => by
        rcases hd9 with h | ⟨g, h, hg⟩
        · rw [h] at hk
          exact ⟨fun e => hm3.br (by rw [← e]; exact hk), fun hF => (hm3.f k hF).2.2.1 hk, .inl hk⟩
        · rw [h] at hk; injection hk with hk; subst hk
          have h' : wq.heap.size ≤ g := hg
          have := hm3.map.lt
          exact ⟨by omega, fun hF => by have := (hm3.f g hF).2.2.2; omega, .inr h'⟩
      have hmp3 : MS qM w11 Fs b (ent l) := hm3.map.keep (hC9.block b hm3.map.lt (by rintro (h | h); exact hm3.pb h.symm; exact hm3.br h)) (fun x hx hF => ⟨hF, hC9.block x hx (by rintro (h | h); exact (hm3.f x hF).1 h; exact (hm3.f x hF).2.2.1 h)⟩)
      have hK4 := hK3.ch hC9 (by rintro (h | h); exact hkp h; have := hko gk h; omega)
      have hV4 := hV3.ch hC9 (by rintro (h | h); exact hvp h; exact blk_row hV3 hm3.row (by decide) h.symm)
      have hu4 := hu3.ch hC9 (by rintro x hx (h | h); exact hGM x hx ((hM x).2 (.inl h)); exact hGM x hx ((hM x).2 (.inr (.inr (.inl h)))))
      have hBlk : Blk w11 p 58 [.slice A9 (l.length + 1) c9, .map (some b)] := hb11
      have hs11 := hC9.size
      have hfu := hm3.f
      have hqin := hm3.qin
      have hpb := hm3.pb
      have hml := hm3.map.lt
      have hplt := hm3.blk.lt
      obtain ⟨w3, hw3⟩ : ∃ x, x = w11 := ⟨_, rfl⟩
      rw [← hw3] at hC9 hrow hmp3 hK4 hV4 hu4 hBlk hs11 ⊢
      have Hrow := hid hrow
      have Hneb9 := hid hneb9
      have Hnp9 := hid hnp9
      have Hfu := hid hfu
      clear hw3 hG11 hb11 hG9 ho9 hd9 hb9 hca hcd hrd hbd hkd hK3 hV3 hu3 hm3 hdw hrow hneb9 hnp9 hfu hc3
      go_wp2
      go_upto_region 12 with (fail)
      have hu3 := hu4
      have hblt := hmp3.lt
      have HC : Hid (∀ W, Ch (fun x => x = b) w3 W → W.cell? ⟨p, 1, none⟩ = some (.map (some b))) := hid fun W hc => (hBlk.ch hc hpb).cellAt 1 _ rfl
      have HK : Hid (∀ W, Ch (fun x => x = b) w3 W → W.rangeAt gk 0 [Value.int .i64 s.1.1, Value.int .i64 s.1.2]) := hid fun W hc => (hK4.ch hc hkb).whole
      have HV : Hid (∀ W, Ch (fun x => x = b) w3 W → W.rangeAt gv 0 lr) := hid fun W hc => (hV4.ch hc hvb).whole
      have hGb : ∀ x, G x → ¬ x = b := fun x hx e => hGM x hx ((hM x).2 (.inr (.inl e)))
      have hFb2 : ¬ (Fs b ∨ w3.heap.size ≤ b) := by rintro (h | h); exact (Hfu.out b h).2.1 rfl; omega
      refine wp_region_noPanic ?_
      refine wp_region_held_drew (S := Ch (fun x => x = b) w3) (by kernel_rfl) ((Ch.refl _ _).drew) (fun hHeld => ?_)
      refine wpAnyH_take (i := 0) (oi := ⟨some 44, _, _, _, _, none⟩) (v := ?_) rfl (by kernel_rfl) (by kernel_rfl) (by kernel_rfl) (fun _ _ _ h => h) (Or.inl ⟨by rfl, ?_⟩) (by assumption) ?_
      rotate_left
      · intro w hSw; go_simp; try with_reducible rfl
      try simp only [Act.put, List.setIfInBounds_toArray, List.set_cons_zero, List.set_cons_succ]
      refine wpAnyH_take (i := 1) (oi := ⟨some 45, _, _, _, _, none⟩) (v := ?_) rfl (by kernel_rfl) (by kernel_rfl) (by kernel_rfl) (fun _ _ _ h => h) (Or.inl ⟨by rfl, ?_⟩) (by assumption) ?_
      rotate_left
      · intro w hSw; go_simp; try with_reducible rfl
      try simp only [Act.put, List.setIfInBounds_toArray, List.set_cons_zero, List.set_cons_succ]
      refine wpAnyH_take (i := 2) (oi := ⟨some 46, _, _, _, _, none⟩) (v := ?_) rfl (by kernel_rfl) (by kernel_rfl) (by kernel_rfl) (fun _ _ _ h => h) (Or.inl ⟨by rfl, ?_⟩) (by assumption) ?_
      rotate_left
      · intro w hSw; go_simp; try with_reducible rfl
      try simp only [Act.put, List.setIfInBounds_toArray, List.set_cons_zero, List.set_cons_succ]
      refine wpAnyH_take (i := 3) (oi := ⟨some 47, _, _, _, _, none⟩) (v := ?_) rfl (by kernel_rfl) (by kernel_rfl) (by kernel_rfl) (fun _ _ _ h => h) (Or.inl ⟨by rfl, ?_⟩) (by assumption) ?_
      rotate_left
      · intro w hSw; have hcw := HC.out w hSw; go_simp; try with_reducible rfl
      try simp only [Act.put, List.setIfInBounds_toArray, List.set_cons_zero, List.set_cons_succ]
      refine wpAnyH_take (i := 4) (oi := ⟨some 48, .load 60 (.tmp 5), _, _, _, none⟩) (v := _) rfl (by kernel_rfl) (by kernel_rfl) (by kernel_rfl) (fun _ _ _ h => h) (yieldsIf_load_mid (by rfl) 60 (.tmp 5) (by rfl) _ (0) (by rfl) _ _ (fun _ hs => HK.out _ hs) Try.underlying60 rfl (sizePl)) (by assumption) ?_
      try simp only [Act.put, List.setIfInBounds_toArray, List.set_cons_zero, List.set_cons_succ]
      refine wpAnyH_take (i := 5) (oi := ⟨some 49, .load 32 (.tmp 3), _, _, _, none⟩) (v := _) rfl (by kernel_rfl) (by kernel_rfl) (by kernel_rfl) (fun _ _ _ h => h) (yieldsIf_load_mid (by rfl) 32 (.tmp 3) (by rfl) _ (0) (by rfl) _ _ (fun _ hs => HV.out _ hs) Try.underlying32 rfl (by rw [Hlr.out]; exact sizeRq16)) (by assumption) ?_
      try simp only [Act.put, List.setIfInBounds_toArray, List.set_cons_zero, List.set_cons_succ]
      refine wpAnyH_ready (rs := [6]) (by kernel_rfl) (by simp) ?_
      refine AllReadyH.cons (o := ⟨some 50, _, _, _, _, none⟩) rfl (fun K hK => ?_) AllReadyH.nil
      go_simp
      refine (Hcp.out _ (hu3.ch hHeld hGb)).mono ?_
      rintro e' w6 ⟨u6, rfl, hr6, hB6⟩
      have hs6 := hHeld.size
      have hC6 := hHeld.belowR hB6
      have hM6 := ((hmp3.keep (w' := w3.drew) rfl (fun x _ h => ⟨h, rfl⟩)).below hB6).weak (F' := fun x => Fs x ∨ w3.heap.size ≤ x) (fun x _ h => .inl h)
      have hv6 : qM.V w6 (fun x => Fs x ∨ w3.heap.size ≤ x) (.agg (r.l u6).toArray) r := ⟨_, rfl, hr6.weak (fun x _ h => .inr (Nat.le_trans hs6 h))⟩
      refine hK.out _ _ (hC6) (fun hHeld => ?_)
      clear hK K
      try simp only [Act.put, List.setIfInBounds_toArray, List.set_cons_zero, List.set_cons_succ]
      refine wpAnyH_ready (rs := [7]) (by kernel_rfl) (by simp) ?_
      refine AllReadyH.cons (o := ⟨none, _, _, _, _, none⟩) rfl (fun K hK => ?_) AllReadyH.nil
      refine step_putS 55 32 (.tmp 47) (.tmp 48) (.tmp 50) (by rfl) (by rfl) Try.underlying55 (by rfl) hM6 (by rw [ent_len]; simp only [maxLen]; omega) (s := s) (by rfl) (by rfl) hv6 hFb2 ?_
      intro w7 hM7 hG7 hs7
      refine hK.out _ _ (hC6.grow hG7 (fun k hk => .inl (by injection hk with hk; exact hk.symm))) (fun hHeld => ?_)
      clear hK K
      try simp only [Act.put]
      refine wpAnyH_done (by kernel_rfl) ?_ _
      refine NoPanic.normal ?_
      have hC7 := hC9.trans' hHeld
      have hBlk7 := hBlk.ch hHeld hpb
      have hrow7 := own_keepO Hrow.out (w' := w7) (fun k hk e => hHeld.block k hk (Hneb9.out k e).1)
      have hs7' := hHeld.size
      clear HC HK HV hHeld hmp3 hBlk hK4 hV4 hu4 hu3 hM6 hG7 hr6 hv6 hB6 hC6
      go_wp2
      go_ret
      rw [E0.out HE0.out, HE0.out]
      refine ⟨rfl, _, ⟨⟨p, b, .slice A9 (l.length + 1) c9, fun x => Fs x ∨ (w3.heap.size ≤ x ∧ x < w7.heap.size), rfl, ⟨hBlk7, ?_, ?_, Hqa.out HE0.out, hpb, fun h => (Hneb9.out b h).1 rfl, ?_⟩, fun x => Iff.rfl⟩, ?_, ?_⟩⟩
      · rw [List.length_append, List.map_append, rows_app]
        rw [show [r].map ky16 = [s] from by rw [Hs.out]; rfl]
        exact hrow7
      · refine (hM7.perm ?_).weak (fun x hx h => by rcases h with h | h; exact .inl h; exact .inr ⟨h, hx⟩)
        rw [Hs.out]
        exact ent_put (by rw [← Hs.out]; exact Hq.out)
      · rintro x (h | ⟨h, h'⟩)
        · have := Hfu.out x h
          exact ⟨this.1, this.2.1, fun e => (Hneb9.out x e).2.1 h, by omega⟩
        · refine ⟨by omega, by omega, fun e => ?_, h'⟩
          have := (Hrow.out.lt x e).2
          omega
      · rintro x (rfl | rfl | h | h | ⟨h, h'⟩)
        · exact .inl ((hM _).2 (.inl rfl))
        · exact .inl ((hM _).2 (.inr (.inl rfl)))
        · rcases (Hneb9.out x h).2.2 with h' | h'
          · exact .inl ((hM x).2 (.inr (.inr (.inl h'))))
          · exact .inr (Nat.le_trans hB3.size h')
        · exact .inl ((hM x).2 (.inr (.inr (.inr h))))
        · exact .inr (Nat.le_trans (Nat.le_trans hB3.size hs11) h)
      · refine (((Ch.refl M w).belowR hB3).trans (hC7.weaken ?_))
        rintro x _ (h | h)
        · rcases h with h | h
          · exact (hM x).2 (.inl h)
          · exact (hM x).2 (.inr (.inr (.inl h)))
        · exact (hM x).2 (.inr (.inl h))
    refine AllReadyH.cons (o := ⟨some 6, .alloc _, _, _, _, none⟩) rfl (fun K hK => ?_) AllReadyH.nil
    refine step_new 32 (by rfl) (by rfl) zeroRq16 ?_
    intro g5 w5 hg5 hgl5 hb5 hB5
    have hg5w : w2.heap.size ≤ g5 := Nat.le_trans hHeld.size hg5
    refine hK.out _ _ (hHeld.belowR hB5) (fun hHeld => ?_)
    clear hK K
    try simp only [Act.put, List.setIfInBounds_toArray, List.set_cons_zero, List.set_cons_succ]
    refine wpAnyH_ready (rs := [5]) (by kernel_rfl) (by simp) ?_
    refine AllReadyH.cons (o := ⟨some 24, .lookup _ _ _ _, _, _, _, none⟩) rfl (fun K hK => ?_) AllReadyH.nil
    refine step_lookS 55 32 (.tmp 22) (.tmp 23) true (by rfl) (by rfl) Try.underlying55 (zReq16 _) (by rfl) (hmp.below hHeld.below) (s := s) (by rfl) ?_ ?_
    rotate_left
    · intro d v h; rw [hq] at h; cases h
    intro _
    rw [if_pos rfl]
    refine hK.out _ _ (hHeld) (fun hHeld => ?_)
    clear hK K
    try simp only [Act.put, List.setIfInBounds_toArray, List.set_cons_zero, List.set_cons_succ]
    refine wpAnyH_take (i := 6) (oi := ⟨some 18, _, _, _, _, none⟩) (v := ?_) rfl (by kernel_rfl) (by kernel_rfl) (by kernel_rfl) (fun _ _ _ h => h) (Or.inl ⟨by rfl, ?_⟩) (by assumption) ?_
    rotate_left
    · intro w hSw; go_simp; try with_reducible rfl
    try simp only [Act.put, List.setIfInBounds_toArray, List.set_cons_zero, List.set_cons_succ]
    refine wpAnyH_take (i := 7) (oi := ⟨some 25, _, _, _, _, none⟩) (v := ?_) rfl (by kernel_rfl) (by kernel_rfl) (by kernel_rfl) (fun _ _ _ h => h) (Or.inl ⟨by rfl, ?_⟩) (by assumption) ?_
    rotate_left
    · intro w hSw; go_simp; try with_reducible rfl
    try simp only [Act.put, List.setIfInBounds_toArray, List.set_cons_zero, List.set_cons_succ]
    refine wpAnyH_take (i := 8) (oi := ⟨some 26, _, _, _, _, none⟩) (v := ?_) rfl (by kernel_rfl) (by kernel_rfl) (by kernel_rfl) (fun _ _ _ h => h) (Or.inl ⟨by rfl, ?_⟩) (by assumption) ?_
    rotate_left
    · intro w hSw; go_simp; try with_reducible rfl
    try simp only [Act.put, List.setIfInBounds_toArray, List.set_cons_zero, List.set_cons_succ]
    refine wpAnyH_ready (rs := [10]) (by kernel_rfl) (by simp) ?_
    refine AllReadyH.cons (o := ⟨none, _, _, _, _, none⟩) rfl (fun K hK => ?_) AllReadyH.nil
    refine step_st 32 (.tmp 6) (.tmp 25) (by rfl) (by rfl) (by rfl) (f := 0) (by rfl) (l := zRq16) (by rfl) hb5 (by first | exact Nat.le_refl _ | (rw [len_l]; exact Nat.le_refl _)) (by first | exact sizeRq16 | (rw [len_l]; exact sizeRq16)) (by decide) ?_
    intro w10 hb10 hG10
    refine hK.out _ _ (hHeld.grow hG10 (fun k hk => .inr (by injection hk with hk; omega))) (fun hHeld => ?_)
    clear hK K
    try simp only [Act.put, List.setIfInBounds_toArray, List.set_cons_zero, List.set_cons_succ]
    refine wpAnyH_take (i := 11) (oi := ⟨some 7, _, _, _, _, none⟩) (v := ?_) rfl (by kernel_rfl) (by kernel_rfl) (by kernel_rfl) (fun _ _ _ h => h) (Or.inl ⟨by rfl, ?_⟩) (by assumption) ?_
    rotate_left
    · intro w hSw; go_simp; try with_reducible rfl
    try simp only [Act.put, List.setIfInBounds_toArray, List.set_cons_zero, List.set_cons_succ]
    refine wpAnyH_done (by kernel_rfl) ?_ _
    refine NoPanic.normal ?_
    have hB3 := hBw.trans (hHeld.below.mono hBw.size)
    have hm3 := hm.below hHeld.below
    have hK3 := hK0.below hHeld.below
    have hV3 := hV.below hHeld.below
    have hu3 := hu.below hHeld.below
    have hc3 := hm3.blk.cellAt 0 _ rfl
    have Hq := hid hq
    clear HC HK hHeld hq hmp hm hK0 hV hu hG10 hb10 hb5 hB5
    by_cases h12 : 12 ≤ l.length
    · have hI : (l.length : Int) ≥ 12 := by omega
      have HE4 := hid (HE.out.trans (if_pos h12))
      clear hm3 hK3 hV3 hu3
      go_wp2
      go_ret
      rw [E1.out (by rw [HE4.out]; decide), HE4.out]
      exact ⟨rfl, M, Hsame.out _ hB3⟩
    have hI : ¬ (l.length : Int) ≥ 12 := by omega
    have HE0 := hid (HE.out.trans (if_neg h12))
    go_wp2
    go_upto_region 11 with (fail)
    have hbd := hm3.blk.drew
    have hkd := hK3.drew
    have hrd := hm3.row
    have hcd := hbd.cellAt 0 _ rfl
    have hca := (hbd.alloc (.cells [Value.int .i64 s.1.1, .int .i64 s.1.2].toArray 60)).cellAt 0 _ rfl
    obtain ⟨wq, hwq⟩ : ∃ x, x = w10 := ⟨_, rfl⟩
    rw [← hwq] at hbd hkd hrd hcd hca hm3 hK3 hV3 hu3 hB3 ⊢
    clear hwq
    have hrd : wq.drew.ownsRow 0 60 2 (.slice Ao l.length co) l.length (K2.rows (l.map ky16)) := own_keepO hrd (fun k _ _ => rfl)
    refine wp_region_noPanic ?_
    refine wp_region_any (by kernel_rfl) ?_
    change wpAny _ _ _ _ _ _ _ (World.drew _)
    refine wpAny_take (i := 0) (oi := ⟨some 34, _, _, _, _, none⟩) (v := ?_) rfl (by kernel_rfl) (by kernel_rfl) (by kernel_rfl) (fun _ _ _ h => h) (Or.inl ⟨by rfl, ?_⟩) ?_
    rotate_left
    · intro w; go_simp; try with_reducible rfl
    try simp only [Act.put, List.setIfInBounds_toArray, List.set_cons_zero, List.set_cons_succ]
    refine wpAny_take (i := 1) (oi := ⟨some 35, _, _, _, _, none⟩) (v := ?_) rfl (by kernel_rfl) (by kernel_rfl) (by kernel_rfl) (fun _ _ _ h => h) (Or.inl ⟨by rfl, ?_⟩) ?_
    rotate_left
    · intro w; go_simp; try with_reducible rfl
    try simp only [Act.put, List.setIfInBounds_toArray, List.set_cons_zero, List.set_cons_succ]
    refine wpAny_take (i := 2) (oi := ⟨some 36, _, _, _, _, none⟩) (v := ?_) rfl (by kernel_rfl) (by kernel_rfl) (by kernel_rfl) (fun _ _ _ h => h) (Or.inl ⟨by rfl, ?_⟩) ?_
    rotate_left
    · intro w; go_simp; try with_reducible rfl
    try simp only [Act.put, List.setIfInBounds_toArray, List.set_cons_zero, List.set_cons_succ]
    refine wpAny_take (i := 3) (oi := ⟨some 37, _, _, _, _, none⟩) (v := ?_) rfl (by kernel_rfl) (by kernel_rfl) (by kernel_rfl) (fun _ _ _ h => h) (Or.inl ⟨by rfl, ?_⟩) ?_
    rotate_left
    · intro w; go_simp; try with_reducible rfl
    try simp only [Act.put, List.setIfInBounds_toArray, List.set_cons_zero, List.set_cons_succ]
    refine wpAny_ready (rs := [4, 5]) (by kernel_rfl) (by simp) ?_
    refine AllReady.cons (o := ⟨some 38, .load 56 _, _, _, _, none⟩) rfl (fun K hK => ?_) ?_
    · refine step_ld1 56 (.tmp 37) (by rfl) (by rfl) (ad := ⟨p, 0, none⟩) (by rfl) hcd (fun W => by kernel_rfl) ?_
      refine hK _ _ ?_
      clear hK K
      try simp only [Act.put, List.setIfInBounds_toArray, List.set_cons_zero, List.set_cons_succ]
      refine wpAny_ready (rs := [5]) (by kernel_rfl) (by simp) ?_
      refine AllReady.cons (o := ⟨some 39, .load 60 _, _, _, _, none⟩) rfl (fun K hK => ?_) AllReady.nil
      refine step_ld 60 (.tmp 5) (by rfl) (by rfl) (by rfl) hkd.whole Try.underlying60 rfl sizePl ?_
      refine hK _ _ ?_
      clear hK K
      try simp only [Act.put, List.setIfInBounds_toArray, List.set_cons_zero, List.set_cons_succ]
      refine wpAny_ready (rs := [6]) (by kernel_rfl) (by simp) ?_
      refine AllReady.cons (o := ⟨some 40, .buildSlice _ _ _, _, _, _, none⟩) rfl (fun K hK => ?_) AllReady.nil
      refine step_bsW (.tmp 39) slPl (by rfl) (by rfl) (us := [.int .i64 s.1.1, .int .i64 s.1.2]) (by rfl) (by rfl) ?_
      refine hK _ _ ?_
      clear hK K
      try simp only [Act.put, List.setIfInBounds_toArray, List.set_cons_zero, List.set_cons_succ]
      refine wpAny_ready (rs := [7]) (by kernel_rfl) (by simp) ?_
      refine AllReady.cons (o := ⟨some 41, _, _, _, _, none⟩) rfl (fun K hK => ?_) AllReady.nil
      refine step_appW13 (.tmp 38) (.tmp 40) slPl (by rfl) (by rfl) (us := [.int .i64 s.1.1, .int .i64 s.1.2]) (by rfl) hone (by rfl) hrd (by rfl) (by simp only [maxLen]; omega) (by omega) (Nat.zero_le _) ?_
      intro v9 w9 ho9 hG9 hd9
      obtain ⟨A9, c9, rfl⟩ := own_shapeW ho9
      have hb9 := hbd.keep (hG9.block p hbd.lt (by intro h; exact hpr h.symm))
      refine hK _ _ ?_
      clear hK K
      try simp only [Act.put, List.setIfInBounds_toArray, List.set_cons_zero, List.set_cons_succ]
      refine wpAny_take (i := 8) (oi := ⟨some 42, _, _, _, _, none⟩) (v := ?_) rfl (by kernel_rfl) (by kernel_rfl) (by kernel_rfl) (fun _ _ _ h => h) (Or.inl ⟨by rfl, ?_⟩) ?_
      rotate_left
      · intro w; go_simp; try with_reducible rfl
      try simp only [Act.put, List.setIfInBounds_toArray, List.set_cons_zero, List.set_cons_succ]
      refine wpAny_take (i := 9) (oi := ⟨some 43, _, _, _, _, none⟩) (v := ?_) rfl (by kernel_rfl) (by kernel_rfl) (by kernel_rfl) (fun _ _ _ h => h) (Or.inl ⟨by rfl, ?_⟩) ?_
      rotate_left
      · intro w; go_simp; try with_reducible rfl
      try simp only [Act.put, List.setIfInBounds_toArray, List.set_cons_zero, List.set_cons_succ]
      refine wpAny_ready (rs := [10]) (by kernel_rfl) (by simp) ?_
      refine AllReady.cons (o := ⟨none, _, _, _, _, none⟩) rfl (fun K hK => ?_) AllReady.nil
      refine step_st1 56 (.tmp 43) (.tmp 41) (by rfl) (by rfl) (by rfl) (f := 0) (by rfl) (v := .slice A9 (l.length + 1) c9) (by rfl) hb9 (by simp) sizeSp (by rfl) (by rfl) ?_
      intro w11 hb11 hG11
      refine hK _ _ ?_
      clear hK K
      try simp only [Act.put, List.setIfInBounds_toArray, List.set_cons_zero, List.set_cons_succ]
      refine wpAny_done (by kernel_rfl) ?_ _
      refine NoPanic.normal ?_
      have hdw : Below wq.heap.size wq wq.drew := (Below.refl _ _).drew
      have hC9 : Ch (fun x => x = p ∨ (Value.slice Ao l.length co).ownBlock = some x) wq w11 := (((Ch.refl _ _).belowR hdw).grow hG9 (fun k hk => .inl (.inr hk))).grow hG11 (fun k hk => .inl (.inl (by injection hk with hk; exact hk.symm)))
      have hnp9 : ∀ k, (Value.slice A9 (l.length + 1) c9).ownBlock = some k → k ≠ p := fun k hk e => by
        subst e
        rcases hd9 with h | ⟨g, h, hg⟩
        · rw [h] at hk; exact hpr hk
        · rw [h] at hk; injection hk with hk; subst hk; have := hm3.blk.lt; have h' : wq.heap.size ≤ g := hg; omega
      have hrow := own_keepO ho9 (w' := w11) (fun k hk e => hG11.block k hk (fun h => hnp9 k e (Option.some.inj h)))
      have hneb9 : ∀ k, (Value.slice A9 (l.length + 1) c9).ownBlock = some k → k ≠ b ∧ ¬ Fs k ∧ ((Value.slice Ao l.length co).ownBlock = some k ∨ wq.heap.size ≤ k) := fun k hk => by
        rcases hd9 with h | ⟨g, h, hg⟩
        · rw [h] at hk
          exact ⟨fun e => hm3.br (by rw [← e]; exact hk), fun hF => (hm3.f k hF).2.2.1 hk, .inl hk⟩
        · rw [h] at hk; injection hk with hk; subst hk
          have h' : wq.heap.size ≤ g := hg
          have := hm3.map.lt
          exact ⟨by omega, fun hF => by have := (hm3.f g hF).2.2.2; omega, .inr h'⟩
      have hmp3 : MS qM w11 Fs b (ent l) := hm3.map.keep (hC9.block b hm3.map.lt (by rintro (h | h); exact hm3.pb h.symm; exact hm3.br h)) (fun x hx hF => ⟨hF, hC9.block x hx (by rintro (h | h); exact (hm3.f x hF).1 h; exact (hm3.f x hF).2.2.1 h)⟩)
      have hK4 := hK3.ch hC9 (by rintro (h | h); exact hkp h; have := hko gk h; omega)
      have hV4 := hV3.ch hC9 (by rintro (h | h); exact hvp h; exact blk_row hV3 hm3.row (by decide) h.symm)
      have hu4 := hu3.ch hC9 (by rintro x hx (h | h); exact hGM x hx ((hM x).2 (.inl h)); exact hGM x hx ((hM x).2 (.inr (.inr (.inl h)))))
      have hBlk : Blk w11 p 58 [.slice A9 (l.length + 1) c9, .map (some b)] := hb11
      have hs11 := hC9.size
      have hfu := hm3.f
      have hqin := hm3.qin
      have hpb := hm3.pb
      have hml := hm3.map.lt
      have hplt := hm3.blk.lt
      obtain ⟨w3, hw3⟩ : ∃ x, x = w11 := ⟨_, rfl⟩
      rw [← hw3] at hC9 hrow hmp3 hK4 hV4 hu4 hBlk hs11 ⊢
      have Hrow := hid hrow
      have Hneb9 := hid hneb9
      have Hnp9 := hid hnp9
      have Hfu := hid hfu
      clear hw3 hG11 hb11 hG9 ho9 hd9 hb9 hca hcd hrd hbd hkd hK3 hV3 hu3 hm3 hdw hrow hneb9 hnp9 hfu hc3
      go_wp2
      go_upto_region 12 with (fail)
      have hu3 := hu4
      have hblt := hmp3.lt
      have HC : Hid (∀ W, Ch (fun x => x = b) w3 W → W.cell? ⟨p, 1, none⟩ = some (.map (some b))) := hid fun W hc => (hBlk.ch hc hpb).cellAt 1 _ rfl
      have HK : Hid (∀ W, Ch (fun x => x = b) w3 W → W.rangeAt gk 0 [Value.int .i64 s.1.1, Value.int .i64 s.1.2]) := hid fun W hc => (hK4.ch hc hkb).whole
      have HV : Hid (∀ W, Ch (fun x => x = b) w3 W → W.rangeAt gv 0 lr) := hid fun W hc => (hV4.ch hc hvb).whole
      have hGb : ∀ x, G x → ¬ x = b := fun x hx e => hGM x hx ((hM x).2 (.inr (.inl e)))
      have hFb2 : ¬ (Fs b ∨ w3.heap.size ≤ b) := by rintro (h | h); exact (Hfu.out b h).2.1 rfl; omega
      refine wp_region_noPanic ?_
      refine wp_region_held_drew (S := Ch (fun x => x = b) w3) (by kernel_rfl) ((Ch.refl _ _).drew) (fun hHeld => ?_)
      refine wpAnyH_take (i := 0) (oi := ⟨some 44, _, _, _, _, none⟩) (v := ?_) rfl (by kernel_rfl) (by kernel_rfl) (by kernel_rfl) (fun _ _ _ h => h) (Or.inl ⟨by rfl, ?_⟩) (by assumption) ?_
      rotate_left
      · intro w hSw; go_simp; try with_reducible rfl
      try simp only [Act.put, List.setIfInBounds_toArray, List.set_cons_zero, List.set_cons_succ]
      refine wpAnyH_take (i := 1) (oi := ⟨some 45, _, _, _, _, none⟩) (v := ?_) rfl (by kernel_rfl) (by kernel_rfl) (by kernel_rfl) (fun _ _ _ h => h) (Or.inl ⟨by rfl, ?_⟩) (by assumption) ?_
      rotate_left
      · intro w hSw; go_simp; try with_reducible rfl
      try simp only [Act.put, List.setIfInBounds_toArray, List.set_cons_zero, List.set_cons_succ]
      refine wpAnyH_take (i := 2) (oi := ⟨some 46, _, _, _, _, none⟩) (v := ?_) rfl (by kernel_rfl) (by kernel_rfl) (by kernel_rfl) (fun _ _ _ h => h) (Or.inl ⟨by rfl, ?_⟩) (by assumption) ?_
      rotate_left
      · intro w hSw; go_simp; try with_reducible rfl
      try simp only [Act.put, List.setIfInBounds_toArray, List.set_cons_zero, List.set_cons_succ]
      refine wpAnyH_take (i := 3) (oi := ⟨some 47, _, _, _, _, none⟩) (v := ?_) rfl (by kernel_rfl) (by kernel_rfl) (by kernel_rfl) (fun _ _ _ h => h) (Or.inl ⟨by rfl, ?_⟩) (by assumption) ?_
      rotate_left
      · intro w hSw; have hcw := HC.out w hSw; go_simp; try with_reducible rfl
      try simp only [Act.put, List.setIfInBounds_toArray, List.set_cons_zero, List.set_cons_succ]
      refine wpAnyH_take (i := 4) (oi := ⟨some 48, .load 60 (.tmp 5), _, _, _, none⟩) (v := _) rfl (by kernel_rfl) (by kernel_rfl) (by kernel_rfl) (fun _ _ _ h => h) (yieldsIf_load_mid (by rfl) 60 (.tmp 5) (by rfl) _ (0) (by rfl) _ _ (fun _ hs => HK.out _ hs) Try.underlying60 rfl (sizePl)) (by assumption) ?_
      try simp only [Act.put, List.setIfInBounds_toArray, List.set_cons_zero, List.set_cons_succ]
      refine wpAnyH_take (i := 5) (oi := ⟨some 49, .load 32 (.tmp 3), _, _, _, none⟩) (v := _) rfl (by kernel_rfl) (by kernel_rfl) (by kernel_rfl) (fun _ _ _ h => h) (yieldsIf_load_mid (by rfl) 32 (.tmp 3) (by rfl) _ (0) (by rfl) _ _ (fun _ hs => HV.out _ hs) Try.underlying32 rfl (by rw [Hlr.out]; exact sizeRq16)) (by assumption) ?_
      try simp only [Act.put, List.setIfInBounds_toArray, List.set_cons_zero, List.set_cons_succ]
      refine wpAnyH_ready (rs := [6]) (by kernel_rfl) (by simp) ?_
      refine AllReadyH.cons (o := ⟨some 50, _, _, _, _, none⟩) rfl (fun K hK => ?_) AllReadyH.nil
      go_simp
      refine (Hcp.out _ (hu3.ch hHeld hGb)).mono ?_
      rintro e' w6 ⟨u6, rfl, hr6, hB6⟩
      have hs6 := hHeld.size
      have hC6 := hHeld.belowR hB6
      have hM6 := ((hmp3.keep (w' := w3.drew) rfl (fun x _ h => ⟨h, rfl⟩)).below hB6).weak (F' := fun x => Fs x ∨ w3.heap.size ≤ x) (fun x _ h => .inl h)
      have hv6 : qM.V w6 (fun x => Fs x ∨ w3.heap.size ≤ x) (.agg (r.l u6).toArray) r := ⟨_, rfl, hr6.weak (fun x _ h => .inr (Nat.le_trans hs6 h))⟩
      refine hK.out _ _ (hC6) (fun hHeld => ?_)
      clear hK K
      try simp only [Act.put, List.setIfInBounds_toArray, List.set_cons_zero, List.set_cons_succ]
      refine wpAnyH_ready (rs := [7]) (by kernel_rfl) (by simp) ?_
      refine AllReadyH.cons (o := ⟨none, _, _, _, _, none⟩) rfl (fun K hK => ?_) AllReadyH.nil
      refine step_putS 55 32 (.tmp 47) (.tmp 48) (.tmp 50) (by rfl) (by rfl) Try.underlying55 (by rfl) hM6 (by rw [ent_len]; simp only [maxLen]; omega) (s := s) (by rfl) (by rfl) hv6 hFb2 ?_
      intro w7 hM7 hG7 hs7
      refine hK.out _ _ (hC6.grow hG7 (fun k hk => .inl (by injection hk with hk; exact hk.symm))) (fun hHeld => ?_)
      clear hK K
      try simp only [Act.put]
      refine wpAnyH_done (by kernel_rfl) ?_ _
      refine NoPanic.normal ?_
      have hC7 := hC9.trans' hHeld
      have hBlk7 := hBlk.ch hHeld hpb
      have hrow7 := own_keepO Hrow.out (w' := w7) (fun k hk e => hHeld.block k hk (Hneb9.out k e).1)
      have hs7' := hHeld.size
      clear HC HK HV hHeld hmp3 hBlk hK4 hV4 hu4 hu3 hM6 hG7 hr6 hv6 hB6 hC6
      go_wp2
      go_ret
      rw [E0.out HE0.out, HE0.out]
      refine ⟨rfl, _, ⟨⟨p, b, .slice A9 (l.length + 1) c9, fun x => Fs x ∨ (w3.heap.size ≤ x ∧ x < w7.heap.size), rfl, ⟨hBlk7, ?_, ?_, Hqa.out HE0.out, hpb, fun h => (Hneb9.out b h).1 rfl, ?_⟩, fun x => Iff.rfl⟩, ?_, ?_⟩⟩
      · rw [List.length_append, List.map_append, rows_app]
        rw [show [r].map ky16 = [s] from by rw [Hs.out]; rfl]
        exact hrow7
      · refine (hM7.perm ?_).weak (fun x hx h => by rcases h with h | h; exact .inl h; exact .inr ⟨h, hx⟩)
        rw [Hs.out]
        exact ent_put (by rw [← Hs.out]; exact Hq.out)
      · rintro x (h | ⟨h, h'⟩)
        · have := Hfu.out x h
          exact ⟨this.1, this.2.1, fun e => (Hneb9.out x e).2.1 h, by omega⟩
        · refine ⟨by omega, by omega, fun e => ?_, h'⟩
          have := (Hrow.out.lt x e).2
          omega
      · rintro x (rfl | rfl | h | h | ⟨h, h'⟩)
        · exact .inl ((hM _).2 (.inl rfl))
        · exact .inl ((hM _).2 (.inr (.inl rfl)))
        · rcases (Hneb9.out x h).2.2 with h' | h'
          · exact .inl ((hM x).2 (.inr (.inr (.inl h'))))
          · exact .inr (Nat.le_trans hB3.size h')
        · exact .inl ((hM x).2 (.inr (.inr (.inr h))))
        · exact .inr (Nat.le_trans (Nat.le_trans hB3.size hs11) h)
      · refine (((Ch.refl M w).belowR hB3).trans (hC7.weaken ?_))
        rintro x _ (h | h)
        · rcases h with h | h
          · exact (hM x).2 (.inl h)
          · exact (hM x).2 (.inr (.inr (.inl h)))
        · exact (hM x).2 (.inr (.inl h))
    refine AllReady.cons (o := ⟨some 39, .load 60 _, _, _, _, none⟩) rfl (fun K hK => ?_) AllReady.nil
    refine step_ld 60 (.tmp 5) (by rfl) (by rfl) (by rfl) hkd.whole Try.underlying60 rfl sizePl ?_
    refine hK _ _ ?_
    clear hK K
    try simp only [Act.put, List.setIfInBounds_toArray, List.set_cons_zero, List.set_cons_succ]
    refine wpAny_ready (rs := [4, 6]) (by kernel_rfl) (by simp) ?_
    refine AllReady.cons (o := ⟨some 38, .load 56 _, _, _, _, none⟩) rfl (fun K hK => ?_) ?_
    · refine step_ld1 56 (.tmp 37) (by rfl) (by rfl) (ad := ⟨p, 0, none⟩) (by rfl) hcd (fun W => by kernel_rfl) ?_
      refine hK _ _ ?_
      clear hK K
      try simp only [Act.put, List.setIfInBounds_toArray, List.set_cons_zero, List.set_cons_succ]
      refine wpAny_ready (rs := [6]) (by kernel_rfl) (by simp) ?_
      refine AllReady.cons (o := ⟨some 40, .buildSlice _ _ _, _, _, _, none⟩) rfl (fun K hK => ?_) AllReady.nil
      refine step_bsW (.tmp 39) slPl (by rfl) (by rfl) (us := [.int .i64 s.1.1, .int .i64 s.1.2]) (by rfl) (by rfl) ?_
      refine hK _ _ ?_
      clear hK K
      try simp only [Act.put, List.setIfInBounds_toArray, List.set_cons_zero, List.set_cons_succ]
      refine wpAny_ready (rs := [7]) (by kernel_rfl) (by simp) ?_
      refine AllReady.cons (o := ⟨some 41, _, _, _, _, none⟩) rfl (fun K hK => ?_) AllReady.nil
      refine step_appW13 (.tmp 38) (.tmp 40) slPl (by rfl) (by rfl) (us := [.int .i64 s.1.1, .int .i64 s.1.2]) (by rfl) hone (by rfl) hrd (by rfl) (by simp only [maxLen]; omega) (by omega) (Nat.zero_le _) ?_
      intro v9 w9 ho9 hG9 hd9
      obtain ⟨A9, c9, rfl⟩ := own_shapeW ho9
      have hb9 := hbd.keep (hG9.block p hbd.lt (by intro h; exact hpr h.symm))
      refine hK _ _ ?_
      clear hK K
      try simp only [Act.put, List.setIfInBounds_toArray, List.set_cons_zero, List.set_cons_succ]
      refine wpAny_take (i := 8) (oi := ⟨some 42, _, _, _, _, none⟩) (v := ?_) rfl (by kernel_rfl) (by kernel_rfl) (by kernel_rfl) (fun _ _ _ h => h) (Or.inl ⟨by rfl, ?_⟩) ?_
      rotate_left
      · intro w; go_simp; try with_reducible rfl
      try simp only [Act.put, List.setIfInBounds_toArray, List.set_cons_zero, List.set_cons_succ]
      refine wpAny_take (i := 9) (oi := ⟨some 43, _, _, _, _, none⟩) (v := ?_) rfl (by kernel_rfl) (by kernel_rfl) (by kernel_rfl) (fun _ _ _ h => h) (Or.inl ⟨by rfl, ?_⟩) ?_
      rotate_left
      · intro w; go_simp; try with_reducible rfl
      try simp only [Act.put, List.setIfInBounds_toArray, List.set_cons_zero, List.set_cons_succ]
      refine wpAny_ready (rs := [10]) (by kernel_rfl) (by simp) ?_
      refine AllReady.cons (o := ⟨none, _, _, _, _, none⟩) rfl (fun K hK => ?_) AllReady.nil
      refine step_st1 56 (.tmp 43) (.tmp 41) (by rfl) (by rfl) (by rfl) (f := 0) (by rfl) (v := .slice A9 (l.length + 1) c9) (by rfl) hb9 (by simp) sizeSp (by rfl) (by rfl) ?_
      intro w11 hb11 hG11
      refine hK _ _ ?_
      clear hK K
      try simp only [Act.put, List.setIfInBounds_toArray, List.set_cons_zero, List.set_cons_succ]
      refine wpAny_done (by kernel_rfl) ?_ _
      refine NoPanic.normal ?_
      have hdw : Below wq.heap.size wq wq.drew := (Below.refl _ _).drew
      have hC9 : Ch (fun x => x = p ∨ (Value.slice Ao l.length co).ownBlock = some x) wq w11 := (((Ch.refl _ _).belowR hdw).grow hG9 (fun k hk => .inl (.inr hk))).grow hG11 (fun k hk => .inl (.inl (by injection hk with hk; exact hk.symm)))
      have hnp9 : ∀ k, (Value.slice A9 (l.length + 1) c9).ownBlock = some k → k ≠ p := fun k hk e => by
        subst e
        rcases hd9 with h | ⟨g, h, hg⟩
        · rw [h] at hk; exact hpr hk
        · rw [h] at hk; injection hk with hk; subst hk; have := hm3.blk.lt; have h' : wq.heap.size ≤ g := hg; omega
      have hrow := own_keepO ho9 (w' := w11) (fun k hk e => hG11.block k hk (fun h => hnp9 k e (Option.some.inj h)))
      have hneb9 : ∀ k, (Value.slice A9 (l.length + 1) c9).ownBlock = some k → k ≠ b ∧ ¬ Fs k ∧ ((Value.slice Ao l.length co).ownBlock = some k ∨ wq.heap.size ≤ k) := fun k hk => by
        rcases hd9 with h | ⟨g, h, hg⟩
        · rw [h] at hk
          exact ⟨fun e => hm3.br (by rw [← e]; exact hk), fun hF => (hm3.f k hF).2.2.1 hk, .inl hk⟩
        · rw [h] at hk; injection hk with hk; subst hk
          have h' : wq.heap.size ≤ g := hg
          have := hm3.map.lt
          exact ⟨by omega, fun hF => by have := (hm3.f g hF).2.2.2; omega, .inr h'⟩
      have hmp3 : MS qM w11 Fs b (ent l) := hm3.map.keep (hC9.block b hm3.map.lt (by rintro (h | h); exact hm3.pb h.symm; exact hm3.br h)) (fun x hx hF => ⟨hF, hC9.block x hx (by rintro (h | h); exact (hm3.f x hF).1 h; exact (hm3.f x hF).2.2.1 h)⟩)
      have hK4 := hK3.ch hC9 (by rintro (h | h); exact hkp h; have := hko gk h; omega)
      have hV4 := hV3.ch hC9 (by rintro (h | h); exact hvp h; exact blk_row hV3 hm3.row (by decide) h.symm)
      have hu4 := hu3.ch hC9 (by rintro x hx (h | h); exact hGM x hx ((hM x).2 (.inl h)); exact hGM x hx ((hM x).2 (.inr (.inr (.inl h)))))
      have hBlk : Blk w11 p 58 [.slice A9 (l.length + 1) c9, .map (some b)] := hb11
      have hs11 := hC9.size
      have hfu := hm3.f
      have hqin := hm3.qin
      have hpb := hm3.pb
      have hml := hm3.map.lt
      have hplt := hm3.blk.lt
      obtain ⟨w3, hw3⟩ : ∃ x, x = w11 := ⟨_, rfl⟩
      rw [← hw3] at hC9 hrow hmp3 hK4 hV4 hu4 hBlk hs11 ⊢
      have Hrow := hid hrow
      have Hneb9 := hid hneb9
      have Hnp9 := hid hnp9
      have Hfu := hid hfu
      clear hw3 hG11 hb11 hG9 ho9 hd9 hb9 hca hcd hrd hbd hkd hK3 hV3 hu3 hm3 hdw hrow hneb9 hnp9 hfu hc3
      go_wp2
      go_upto_region 12 with (fail)
      have hu3 := hu4
      have hblt := hmp3.lt
      have HC : Hid (∀ W, Ch (fun x => x = b) w3 W → W.cell? ⟨p, 1, none⟩ = some (.map (some b))) := hid fun W hc => (hBlk.ch hc hpb).cellAt 1 _ rfl
      have HK : Hid (∀ W, Ch (fun x => x = b) w3 W → W.rangeAt gk 0 [Value.int .i64 s.1.1, Value.int .i64 s.1.2]) := hid fun W hc => (hK4.ch hc hkb).whole
      have HV : Hid (∀ W, Ch (fun x => x = b) w3 W → W.rangeAt gv 0 lr) := hid fun W hc => (hV4.ch hc hvb).whole
      have hGb : ∀ x, G x → ¬ x = b := fun x hx e => hGM x hx ((hM x).2 (.inr (.inl e)))
      have hFb2 : ¬ (Fs b ∨ w3.heap.size ≤ b) := by rintro (h | h); exact (Hfu.out b h).2.1 rfl; omega
      refine wp_region_noPanic ?_
      refine wp_region_held_drew (S := Ch (fun x => x = b) w3) (by kernel_rfl) ((Ch.refl _ _).drew) (fun hHeld => ?_)
      refine wpAnyH_take (i := 0) (oi := ⟨some 44, _, _, _, _, none⟩) (v := ?_) rfl (by kernel_rfl) (by kernel_rfl) (by kernel_rfl) (fun _ _ _ h => h) (Or.inl ⟨by rfl, ?_⟩) (by assumption) ?_
      rotate_left
      · intro w hSw; go_simp; try with_reducible rfl
      try simp only [Act.put, List.setIfInBounds_toArray, List.set_cons_zero, List.set_cons_succ]
      refine wpAnyH_take (i := 1) (oi := ⟨some 45, _, _, _, _, none⟩) (v := ?_) rfl (by kernel_rfl) (by kernel_rfl) (by kernel_rfl) (fun _ _ _ h => h) (Or.inl ⟨by rfl, ?_⟩) (by assumption) ?_
      rotate_left
      · intro w hSw; go_simp; try with_reducible rfl
      try simp only [Act.put, List.setIfInBounds_toArray, List.set_cons_zero, List.set_cons_succ]
      refine wpAnyH_take (i := 2) (oi := ⟨some 46, _, _, _, _, none⟩) (v := ?_) rfl (by kernel_rfl) (by kernel_rfl) (by kernel_rfl) (fun _ _ _ h => h) (Or.inl ⟨by rfl, ?_⟩) (by assumption) ?_
      rotate_left
      · intro w hSw; go_simp; try with_reducible rfl
      try simp only [Act.put, List.setIfInBounds_toArray, List.set_cons_zero, List.set_cons_succ]
      refine wpAnyH_take (i := 3) (oi := ⟨some 47, _, _, _, _, none⟩) (v := ?_) rfl (by kernel_rfl) (by kernel_rfl) (by kernel_rfl) (fun _ _ _ h => h) (Or.inl ⟨by rfl, ?_⟩) (by assumption) ?_
      rotate_left
      · intro w hSw; have hcw := HC.out w hSw; go_simp; try with_reducible rfl
      try simp only [Act.put, List.setIfInBounds_toArray, List.set_cons_zero, List.set_cons_succ]
      refine wpAnyH_take (i := 4) (oi := ⟨some 48, .load 60 (.tmp 5), _, _, _, none⟩) (v := _) rfl (by kernel_rfl) (by kernel_rfl) (by kernel_rfl) (fun _ _ _ h => h) (yieldsIf_load_mid (by rfl) 60 (.tmp 5) (by rfl) _ (0) (by rfl) _ _ (fun _ hs => HK.out _ hs) Try.underlying60 rfl (sizePl)) (by assumption) ?_
      try simp only [Act.put, List.setIfInBounds_toArray, List.set_cons_zero, List.set_cons_succ]
      refine wpAnyH_take (i := 5) (oi := ⟨some 49, .load 32 (.tmp 3), _, _, _, none⟩) (v := _) rfl (by kernel_rfl) (by kernel_rfl) (by kernel_rfl) (fun _ _ _ h => h) (yieldsIf_load_mid (by rfl) 32 (.tmp 3) (by rfl) _ (0) (by rfl) _ _ (fun _ hs => HV.out _ hs) Try.underlying32 rfl (by rw [Hlr.out]; exact sizeRq16)) (by assumption) ?_
      try simp only [Act.put, List.setIfInBounds_toArray, List.set_cons_zero, List.set_cons_succ]
      refine wpAnyH_ready (rs := [6]) (by kernel_rfl) (by simp) ?_
      refine AllReadyH.cons (o := ⟨some 50, _, _, _, _, none⟩) rfl (fun K hK => ?_) AllReadyH.nil
      go_simp
      refine (Hcp.out _ (hu3.ch hHeld hGb)).mono ?_
      rintro e' w6 ⟨u6, rfl, hr6, hB6⟩
      have hs6 := hHeld.size
      have hC6 := hHeld.belowR hB6
      have hM6 := ((hmp3.keep (w' := w3.drew) rfl (fun x _ h => ⟨h, rfl⟩)).below hB6).weak (F' := fun x => Fs x ∨ w3.heap.size ≤ x) (fun x _ h => .inl h)
      have hv6 : qM.V w6 (fun x => Fs x ∨ w3.heap.size ≤ x) (.agg (r.l u6).toArray) r := ⟨_, rfl, hr6.weak (fun x _ h => .inr (Nat.le_trans hs6 h))⟩
      refine hK.out _ _ (hC6) (fun hHeld => ?_)
      clear hK K
      try simp only [Act.put, List.setIfInBounds_toArray, List.set_cons_zero, List.set_cons_succ]
      refine wpAnyH_ready (rs := [7]) (by kernel_rfl) (by simp) ?_
      refine AllReadyH.cons (o := ⟨none, _, _, _, _, none⟩) rfl (fun K hK => ?_) AllReadyH.nil
      refine step_putS 55 32 (.tmp 47) (.tmp 48) (.tmp 50) (by rfl) (by rfl) Try.underlying55 (by rfl) hM6 (by rw [ent_len]; simp only [maxLen]; omega) (s := s) (by rfl) (by rfl) hv6 hFb2 ?_
      intro w7 hM7 hG7 hs7
      refine hK.out _ _ (hC6.grow hG7 (fun k hk => .inl (by injection hk with hk; exact hk.symm))) (fun hHeld => ?_)
      clear hK K
      try simp only [Act.put]
      refine wpAnyH_done (by kernel_rfl) ?_ _
      refine NoPanic.normal ?_
      have hC7 := hC9.trans' hHeld
      have hBlk7 := hBlk.ch hHeld hpb
      have hrow7 := own_keepO Hrow.out (w' := w7) (fun k hk e => hHeld.block k hk (Hneb9.out k e).1)
      have hs7' := hHeld.size
      clear HC HK HV hHeld hmp3 hBlk hK4 hV4 hu4 hu3 hM6 hG7 hr6 hv6 hB6 hC6
      go_wp2
      go_ret
      rw [E0.out HE0.out, HE0.out]
      refine ⟨rfl, _, ⟨⟨p, b, .slice A9 (l.length + 1) c9, fun x => Fs x ∨ (w3.heap.size ≤ x ∧ x < w7.heap.size), rfl, ⟨hBlk7, ?_, ?_, Hqa.out HE0.out, hpb, fun h => (Hneb9.out b h).1 rfl, ?_⟩, fun x => Iff.rfl⟩, ?_, ?_⟩⟩
      · rw [List.length_append, List.map_append, rows_app]
        rw [show [r].map ky16 = [s] from by rw [Hs.out]; rfl]
        exact hrow7
      · refine (hM7.perm ?_).weak (fun x hx h => by rcases h with h | h; exact .inl h; exact .inr ⟨h, hx⟩)
        rw [Hs.out]
        exact ent_put (by rw [← Hs.out]; exact Hq.out)
      · rintro x (h | ⟨h, h'⟩)
        · have := Hfu.out x h
          exact ⟨this.1, this.2.1, fun e => (Hneb9.out x e).2.1 h, by omega⟩
        · refine ⟨by omega, by omega, fun e => ?_, h'⟩
          have := (Hrow.out.lt x e).2
          omega
      · rintro x (rfl | rfl | h | h | ⟨h, h'⟩)
        · exact .inl ((hM _).2 (.inl rfl))
        · exact .inl ((hM _).2 (.inr (.inl rfl)))
        · rcases (Hneb9.out x h).2.2 with h' | h'
          · exact .inl ((hM x).2 (.inr (.inr (.inl h'))))
          · exact .inr (Nat.le_trans hB3.size h')
        · exact .inl ((hM x).2 (.inr (.inr (.inr h))))
        · exact .inr (Nat.le_trans (Nat.le_trans hB3.size hs11) h)
      · refine (((Ch.refl M w).belowR hB3).trans (hC7.weaken ?_))
        rintro x _ (h | h)
        · rcases h with h | h
          · exact (hM x).2 (.inl h)
          · exact (hM x).2 (.inr (.inr (.inl h)))
        · exact (hM x).2 (.inr (.inl h))
    refine AllReady.cons (o := ⟨some 40, .buildSlice _ _ _, _, _, _, none⟩) rfl (fun K hK => ?_) AllReady.nil
    refine step_bsW (.tmp 39) slPl (by rfl) (by rfl) (us := [.int .i64 s.1.1, .int .i64 s.1.2]) (by rfl) (by rfl) ?_
    refine hK _ _ ?_
    clear hK K
    try simp only [Act.put, List.setIfInBounds_toArray, List.set_cons_zero, List.set_cons_succ]
    refine wpAny_ready (rs := [4]) (by kernel_rfl) (by simp) ?_
    refine AllReady.cons (o := ⟨some 38, .load 56 _, _, _, _, none⟩) rfl (fun K hK => ?_) AllReady.nil
    refine step_ld1 56 (.tmp 37) (by rfl) (by rfl) (ad := ⟨p, 0, none⟩) (by rfl) hca (fun W => by kernel_rfl) ?_
    refine hK _ _ ?_
    clear hK K
    try simp only [Act.put, List.setIfInBounds_toArray, List.set_cons_zero, List.set_cons_succ]
    refine wpAny_ready (rs := [7]) (by kernel_rfl) (by simp) ?_
    refine AllReady.cons (o := ⟨some 41, _, _, _, _, none⟩) rfl (fun K hK => ?_) AllReady.nil
    refine step_appW13 (.tmp 38) (.tmp 40) slPl (by rfl) (by rfl) (us := [.int .i64 s.1.1, .int .i64 s.1.2]) (by rfl) hone (by rfl) hrd (by rfl) (by simp only [maxLen]; omega) (by omega) (Nat.zero_le _) ?_
    intro v9 w9 ho9 hG9 hd9
    obtain ⟨A9, c9, rfl⟩ := own_shapeW ho9
    have hb9 := hbd.keep (hG9.block p hbd.lt (by intro h; exact hpr h.symm))
    refine hK _ _ ?_
    clear hK K
    try simp only [Act.put, List.setIfInBounds_toArray, List.set_cons_zero, List.set_cons_succ]
    refine wpAny_take (i := 8) (oi := ⟨some 42, _, _, _, _, none⟩) (v := ?_) rfl (by kernel_rfl) (by kernel_rfl) (by kernel_rfl) (fun _ _ _ h => h) (Or.inl ⟨by rfl, ?_⟩) ?_
    rotate_left
    · intro w; go_simp; try with_reducible rfl
    try simp only [Act.put, List.setIfInBounds_toArray, List.set_cons_zero, List.set_cons_succ]
    refine wpAny_take (i := 9) (oi := ⟨some 43, _, _, _, _, none⟩) (v := ?_) rfl (by kernel_rfl) (by kernel_rfl) (by kernel_rfl) (fun _ _ _ h => h) (Or.inl ⟨by rfl, ?_⟩) ?_
    rotate_left
    · intro w; go_simp; try with_reducible rfl
    try simp only [Act.put, List.setIfInBounds_toArray, List.set_cons_zero, List.set_cons_succ]
    refine wpAny_ready (rs := [10]) (by kernel_rfl) (by simp) ?_
    refine AllReady.cons (o := ⟨none, _, _, _, _, none⟩) rfl (fun K hK => ?_) AllReady.nil
    refine step_st1 56 (.tmp 43) (.tmp 41) (by rfl) (by rfl) (by rfl) (f := 0) (by rfl) (v := .slice A9 (l.length + 1) c9) (by rfl) hb9 (by simp) sizeSp (by rfl) (by rfl) ?_
    intro w11 hb11 hG11
    refine hK _ _ ?_
    clear hK K
    try simp only [Act.put, List.setIfInBounds_toArray, List.set_cons_zero, List.set_cons_succ]
    refine wpAny_done (by kernel_rfl) ?_ _
    refine NoPanic.normal ?_
    have hdw : Below wq.heap.size wq wq.drew := (Below.refl _ _).drew
    have hC9 : Ch (fun x => x = p ∨ (Value.slice Ao l.length co).ownBlock = some x) wq w11 := (((Ch.refl _ _).belowR hdw).grow hG9 (fun k hk => .inl (.inr hk))).grow hG11 (fun k hk => .inl (.inl (by injection hk with hk; exact hk.symm)))
    have hnp9 : ∀ k, (Value.slice A9 (l.length + 1) c9).ownBlock = some k → k ≠ p := fun k hk e => by
      subst e
      rcases hd9 with h | ⟨g, h, hg⟩
      · rw [h] at hk; exact hpr hk
      · rw [h] at hk; injection hk with hk; subst hk; have := hm3.blk.lt; have h' : wq.heap.size ≤ g := hg; omega
    have hrow := own_keepO ho9 (w' := w11) (fun k hk e => hG11.block k hk (fun h => hnp9 k e (Option.some.inj h)))
    have hneb9 : ∀ k, (Value.slice A9 (l.length + 1) c9).ownBlock = some k → k ≠ b ∧ ¬ Fs k ∧ ((Value.slice Ao l.length co).ownBlock = some k ∨ wq.heap.size ≤ k) := fun k hk => by
      rcases hd9 with h | ⟨g, h, hg⟩
      · rw [h] at hk
        exact ⟨fun e => hm3.br (by rw [← e]; exact hk), fun hF => (hm3.f k hF).2.2.1 hk, .inl hk⟩
      · rw [h] at hk; injection hk with hk; subst hk
        have h' : wq.heap.size ≤ g := hg
        have := hm3.map.lt
        exact ⟨by omega, fun hF => by have := (hm3.f g hF).2.2.2; omega, .inr h'⟩
    have hmp3 : MS qM w11 Fs b (ent l) := hm3.map.keep (hC9.block b hm3.map.lt (by rintro (h | h); exact hm3.pb h.symm; exact hm3.br h)) (fun x hx hF => ⟨hF, hC9.block x hx (by rintro (h | h); exact (hm3.f x hF).1 h; exact (hm3.f x hF).2.2.1 h)⟩)
    have hK4 := hK3.ch hC9 (by rintro (h | h); exact hkp h; have := hko gk h; omega)
    have hV4 := hV3.ch hC9 (by rintro (h | h); exact hvp h; exact blk_row hV3 hm3.row (by decide) h.symm)
    have hu4 := hu3.ch hC9 (by rintro x hx (h | h); exact hGM x hx ((hM x).2 (.inl h)); exact hGM x hx ((hM x).2 (.inr (.inr (.inl h)))))
    have hBlk : Blk w11 p 58 [.slice A9 (l.length + 1) c9, .map (some b)] := hb11
    have hs11 := hC9.size
    have hfu := hm3.f
    have hqin := hm3.qin
    have hpb := hm3.pb
    have hml := hm3.map.lt
    have hplt := hm3.blk.lt
    obtain ⟨w3, hw3⟩ : ∃ x, x = w11 := ⟨_, rfl⟩
    rw [← hw3] at hC9 hrow hmp3 hK4 hV4 hu4 hBlk hs11 ⊢
    have Hrow := hid hrow
    have Hneb9 := hid hneb9
    have Hnp9 := hid hnp9
    have Hfu := hid hfu
    clear hw3 hG11 hb11 hG9 ho9 hd9 hb9 hca hcd hrd hbd hkd hK3 hV3 hu3 hm3 hdw hrow hneb9 hnp9 hfu hc3
    go_wp2
    go_upto_region 12 with (fail)
    have hu3 := hu4
    have hblt := hmp3.lt
    have HC : Hid (∀ W, Ch (fun x => x = b) w3 W → W.cell? ⟨p, 1, none⟩ = some (.map (some b))) := hid fun W hc => (hBlk.ch hc hpb).cellAt 1 _ rfl
    have HK : Hid (∀ W, Ch (fun x => x = b) w3 W → W.rangeAt gk 0 [Value.int .i64 s.1.1, Value.int .i64 s.1.2]) := hid fun W hc => (hK4.ch hc hkb).whole
    have HV : Hid (∀ W, Ch (fun x => x = b) w3 W → W.rangeAt gv 0 lr) := hid fun W hc => (hV4.ch hc hvb).whole
    have hGb : ∀ x, G x → ¬ x = b := fun x hx e => hGM x hx ((hM x).2 (.inr (.inl e)))
    have hFb2 : ¬ (Fs b ∨ w3.heap.size ≤ b) := by rintro (h | h); exact (Hfu.out b h).2.1 rfl; omega
    refine wp_region_noPanic ?_
    refine wp_region_held_drew (S := Ch (fun x => x = b) w3) (by kernel_rfl) ((Ch.refl _ _).drew) (fun hHeld => ?_)
    refine wpAnyH_take (i := 0) (oi := ⟨some 44, _, _, _, _, none⟩) (v := ?_) rfl (by kernel_rfl) (by kernel_rfl) (by kernel_rfl) (fun _ _ _ h => h) (Or.inl ⟨by rfl, ?_⟩) (by assumption) ?_
    rotate_left
    · intro w hSw; go_simp; try with_reducible rfl
    try simp only [Act.put, List.setIfInBounds_toArray, List.set_cons_zero, List.set_cons_succ]
    refine wpAnyH_take (i := 1) (oi := ⟨some 45, _, _, _, _, none⟩) (v := ?_) rfl (by kernel_rfl) (by kernel_rfl) (by kernel_rfl) (fun _ _ _ h => h) (Or.inl ⟨by rfl, ?_⟩) (by assumption) ?_
    rotate_left
    · intro w hSw; go_simp; try with_reducible rfl
    try simp only [Act.put, List.setIfInBounds_toArray, List.set_cons_zero, List.set_cons_succ]
    refine wpAnyH_take (i := 2) (oi := ⟨some 46, _, _, _, _, none⟩) (v := ?_) rfl (by kernel_rfl) (by kernel_rfl) (by kernel_rfl) (fun _ _ _ h => h) (Or.inl ⟨by rfl, ?_⟩) (by assumption) ?_
    rotate_left
    · intro w hSw; go_simp; try with_reducible rfl
    try simp only [Act.put, List.setIfInBounds_toArray, List.set_cons_zero, List.set_cons_succ]
    refine wpAnyH_take (i := 3) (oi := ⟨some 47, _, _, _, _, none⟩) (v := ?_) rfl (by kernel_rfl) (by kernel_rfl) (by kernel_rfl) (fun _ _ _ h => h) (Or.inl ⟨by rfl, ?_⟩) (by assumption) ?_
    rotate_left
    · intro w hSw; have hcw := HC.out w hSw; go_simp; try with_reducible rfl
    try simp only [Act.put, List.setIfInBounds_toArray, List.set_cons_zero, List.set_cons_succ]
    refine wpAnyH_take (i := 4) (oi := ⟨some 48, .load 60 (.tmp 5), _, _, _, none⟩) (v := _) rfl (by kernel_rfl) (by kernel_rfl) (by kernel_rfl) (fun _ _ _ h => h) (yieldsIf_load_mid (by rfl) 60 (.tmp 5) (by rfl) _ (0) (by rfl) _ _ (fun _ hs => HK.out _ hs) Try.underlying60 rfl (sizePl)) (by assumption) ?_
    try simp only [Act.put, List.setIfInBounds_toArray, List.set_cons_zero, List.set_cons_succ]
    refine wpAnyH_take (i := 5) (oi := ⟨some 49, .load 32 (.tmp 3), _, _, _, none⟩) (v := _) rfl (by kernel_rfl) (by kernel_rfl) (by kernel_rfl) (fun _ _ _ h => h) (yieldsIf_load_mid (by rfl) 32 (.tmp 3) (by rfl) _ (0) (by rfl) _ _ (fun _ hs => HV.out _ hs) Try.underlying32 rfl (by rw [Hlr.out]; exact sizeRq16)) (by assumption) ?_
    try simp only [Act.put, List.setIfInBounds_toArray, List.set_cons_zero, List.set_cons_succ]
    refine wpAnyH_ready (rs := [6]) (by kernel_rfl) (by simp) ?_
    refine AllReadyH.cons (o := ⟨some 50, _, _, _, _, none⟩) rfl (fun K hK => ?_) AllReadyH.nil
    go_simp
    refine (Hcp.out _ (hu3.ch hHeld hGb)).mono ?_
    rintro e' w6 ⟨u6, rfl, hr6, hB6⟩
    have hs6 := hHeld.size
    have hC6 := hHeld.belowR hB6
    have hM6 := ((hmp3.keep (w' := w3.drew) rfl (fun x _ h => ⟨h, rfl⟩)).below hB6).weak (F' := fun x => Fs x ∨ w3.heap.size ≤ x) (fun x _ h => .inl h)
    have hv6 : qM.V w6 (fun x => Fs x ∨ w3.heap.size ≤ x) (.agg (r.l u6).toArray) r := ⟨_, rfl, hr6.weak (fun x _ h => .inr (Nat.le_trans hs6 h))⟩
    refine hK.out _ _ (hC6) (fun hHeld => ?_)
    clear hK K
    try simp only [Act.put, List.setIfInBounds_toArray, List.set_cons_zero, List.set_cons_succ]
    refine wpAnyH_ready (rs := [7]) (by kernel_rfl) (by simp) ?_
    refine AllReadyH.cons (o := ⟨none, _, _, _, _, none⟩) rfl (fun K hK => ?_) AllReadyH.nil
    refine step_putS 55 32 (.tmp 47) (.tmp 48) (.tmp 50) (by rfl) (by rfl) Try.underlying55 (by rfl) hM6 (by rw [ent_len]; simp only [maxLen]; omega) (s := s) (by rfl) (by rfl) hv6 hFb2 ?_
    intro w7 hM7 hG7 hs7
    refine hK.out _ _ (hC6.grow hG7 (fun k hk => .inl (by injection hk with hk; exact hk.symm))) (fun hHeld => ?_)
    clear hK K
    try simp only [Act.put]
    refine wpAnyH_done (by kernel_rfl) ?_ _
    refine NoPanic.normal ?_
    have hC7 := hC9.trans' hHeld
    have hBlk7 := hBlk.ch hHeld hpb
    have hrow7 := own_keepO Hrow.out (w' := w7) (fun k hk e => hHeld.block k hk (Hneb9.out k e).1)
    have hs7' := hHeld.size
    clear HC HK HV hHeld hmp3 hBlk hK4 hV4 hu4 hu3 hM6 hG7 hr6 hv6 hB6 hC6
    go_wp2
    go_ret
    rw [E0.out HE0.out, HE0.out]
    refine ⟨rfl, _, ⟨⟨p, b, .slice A9 (l.length + 1) c9, fun x => Fs x ∨ (w3.heap.size ≤ x ∧ x < w7.heap.size), rfl, ⟨hBlk7, ?_, ?_, Hqa.out HE0.out, hpb, fun h => (Hneb9.out b h).1 rfl, ?_⟩, fun x => Iff.rfl⟩, ?_, ?_⟩⟩
    · rw [List.length_append, List.map_append, rows_app]
      rw [show [r].map ky16 = [s] from by rw [Hs.out]; rfl]
      exact hrow7
    · refine (hM7.perm ?_).weak (fun x hx h => by rcases h with h | h; exact .inl h; exact .inr ⟨h, hx⟩)
      rw [Hs.out]
      exact ent_put (by rw [← Hs.out]; exact Hq.out)
    · rintro x (h | ⟨h, h'⟩)
      · have := Hfu.out x h
        exact ⟨this.1, this.2.1, fun e => (Hneb9.out x e).2.1 h, by omega⟩
      · refine ⟨by omega, by omega, fun e => ?_, h'⟩
        have := (Hrow.out.lt x e).2
        omega
    · rintro x (rfl | rfl | h | h | ⟨h, h'⟩)
      · exact .inl ((hM _).2 (.inl rfl))
      · exact .inl ((hM _).2 (.inr (.inl rfl)))
      · rcases (Hneb9.out x h).2.2 with h' | h'
        · exact .inl ((hM x).2 (.inr (.inr (.inl h'))))
        · exact .inr (Nat.le_trans hB3.size h')
      · exact .inl ((hM x).2 (.inr (.inr (.inr h))))
      · exact .inr (Nat.le_trans (Nat.le_trans hB3.size hs11) h)
    · refine (((Ch.refl M w).belowR hB3).trans (hC7.weaken ?_))
      rintro x _ (h | h)
      · rcases h with h | h
        · exact (hM x).2 (.inl h)
        · exact (hM x).2 (.inr (.inr (.inl h)))
      · exact (hM x).2 (.inr (.inl h))
end Go.Proofs.Ytnpgloeldoiekaa
