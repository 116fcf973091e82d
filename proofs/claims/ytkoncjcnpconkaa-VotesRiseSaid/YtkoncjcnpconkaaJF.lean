/- JF: layer 13: contracts of votes: bytesOf, refusal, Put. -/
import Derived.Test.YtkoncjcnpconkaaJB
namespace Go.Proofs.Ytkoncjcnpconkaa
open Go.RowKit Go.V
set_option maxRecDepth 100000 in
set_option maxHeartbeats 4000000 in
theorem bytesOf13_any (m : Vt) (ub up : Value) (F1 F2 : Nat → Prop) (w : World) (hb : m.b.length ≤ 1000000) (hn : m.ps.length ≤ 1000) (hst : ∀ t ∈ m.ps, t.length ≤ 1000000) (hub : Rd w F1 ub (bys m.b)) (hup : Rd w F2 up (tx m.ps)) :
    Calls Try.prog 28 #[m.val ub up] w fun e w' => ∃ v', e = .returned v' ∧ NewB w w' v' (Vt.by m) := by
  have hh := m.hh
  have hhd := fun W (_ : Rd W F1 ub (bys m.b)) (_ : Rd W F2 up (tx m.ps)) => head13_any m ub up W
  obtain ⟨AB, cb, rfl⟩ := hub.shape
  obtain ⟨AP, cpp, rfl, _, _⟩ := hup.slShape
  unfold Vt.val at hhd ⊢
  have hpb := psz_bd m.b.length
  have hpp := psz_bd m.ps.length
  obtain ⟨l, hl⟩ : ∃ l, l = m.l (.slice AB m.b.length cb) (.slice AP m.ps.length cpp) := ⟨_, rfl⟩
  have h36 : l[36]? = some (.slice AB m.b.length cb) := by rw [hl]; exact vt_body hh _ _
  have h37 : l[37]? = some (.slice AP m.ps.length cpp) := by rw [hl]; exact vt_parts hh _ _
  have hmn : l.length = 38 := by rw [hl]; exact len_vt m _ _
  rw [← hl] at hhd ⊢
  clear hl
  have Hmn := hid hmn
  have hvb := Blk.new' w 27 l
  have hB : Below w.heap.size w (w.alloc (.cells l.toArray 27)) := (Below.refl _ _).alloc (Nat.le_refl _) _
  have hub := hub.below hB
  have hup := hup.below hB
  have hw0 : IntKind.u64.wrap (m.ps.length : Int) = (m.ps.length : Int) := by rw [IntKind.wrap_u64]; omega
  have hL1 : (Vt.hd m).length = 39 := len_vhd m
  obtain ⟨q, hq⟩ : ∃ q, q = Vt.hd m ++ (packed m.b.length ++ m.b) := ⟨_, rfl⟩
  have hql : q.length ≤ 1000100 := by rw [hq]; simp only [List.length_append, length_packed, hL1]; omega
  have Hhd := hid hhd
  have Hq := hid hq
  clear hhd hmn hq
  go_enter Try.func28, Try.ntmps28
  go_upto_region 1 with (fail)
  obtain ⟨w0, hw0'⟩ : ∃ w0, w0 = w.alloc (.cells l.toArray 27) := ⟨_, rfl⟩
  rw [← hw0'] at hvb hB hub hup ⊢
  clear hw0'
  have hBs := hB.size
  obtain ⟨g, hg⟩ : ∃ g, g = w.heap.size := ⟨_, rfl⟩
  rw [← hg] at hvb ⊢
  clear hg
  have HV : Hid (∀ W, Ch nob w0 W → W.rangeAt g 0 l) := fun W h => (hvb.ch h (fun h => h)).whole
  have HB : Hid (∀ W, Ch nob w0 W → W.cell? ⟨g, 36, none⟩ = some (.slice AB m.b.length cb)) := fun W h => (hvb.ch h (fun h => h)).cellAt 36 _ h36
  refine wp_region_noPanic ?_
  refine wp_region_held_drew (S := Ch nob w0) (by kernel_rfl) ((Ch.refl _ _).drew) (fun hHeld => ?_)
  refine wpAnyH_take (i := 0) (oi := ⟨some 6, .load 27 (.tmp 1), _, _, _, none⟩) (v := _) rfl (by kernel_rfl) (by kernel_rfl) (by kernel_rfl) (fun _ _ _ h => h) (yieldsIf_load_mid (by rfl) 27 (.tmp 1) (by rfl) _ (0) (by rfl) _ _ (fun _ hs => HV.out _ hs) Try.underlying27 rfl (by rw [Hmn.out]; exact sizeVt)) (by assumption) ?_
  try simp only [Act.put, List.setIfInBounds_toArray, List.set_cons_zero, List.set_cons_succ]
  refine wpAnyH_take (i := 2) (oi := ⟨some 8, _, _, _, _, none⟩) (v := ?_) rfl (by kernel_rfl) (by kernel_rfl) (by kernel_rfl) (fun _ _ _ h => h) (Or.inl ⟨by rfl, ?_⟩) (by assumption) ?_
  rotate_left
  · intro w hSw; go_simp; try with_reducible rfl
  try simp only [Act.put, List.setIfInBounds_toArray, List.set_cons_zero, List.set_cons_succ]
  refine wpAnyH_take (i := 3) (oi := ⟨some 9, _, _, _, _, none⟩) (v := ?_) rfl (by kernel_rfl) (by kernel_rfl) (by kernel_rfl) (fun _ _ _ h => h) (Or.inl ⟨by rfl, ?_⟩) (by assumption) ?_
  rotate_left
  · intro w hSw; have hcw := HB.out w hSw; go_simp; try with_reducible rfl
  try simp only [Act.put, List.setIfInBounds_toArray, List.set_cons_zero, List.set_cons_succ]
  refine wpAnyH_ready (rs := [1]) (by kernel_rfl) (by simp) ?_
  refine AllReadyH.cons (o := ⟨some 7, _, _, _, _, none⟩) rfl (fun K hK => ?_) AllReadyH.nil
  go_simp
  refine (Hhd.out _ (hub.ext hHeld) (hup.ext hHeld)).mono ?_
  rintro e' w11 ⟨v11, rfl, ho11, hB11⟩
  have hs11 := hHeld.size
  have hC11 := hHeld.belowR hB11
  refine hK.out _ _ (hC11) (fun hHeld => ?_)
  clear hK K
  try simp only [Act.put, List.setIfInBounds_toArray, List.set_cons_zero, List.set_cons_succ]
  refine wpAnyH_ready (rs := [4]) (by kernel_rfl) (by simp) ?_
  refine AllReadyH.cons (o := ⟨some 10, _, _, _, _, none⟩) rfl (fun K hK => ?_) AllReadyH.nil
  go_simp
  refine (putt_any v11 _ (Vt.hd m) m.b _ F1 _ (Rd.of_own ho11) (hub.ext hHeld) (by rw [len_vhd]; omega) (by omega)).mono ?_
  rintro e' w12 ⟨v12, rfl, ho12, hB12⟩
  have hs12 := hHeld.size
  have hC12 := hHeld.belowR hB12
  refine hK.out _ _ (hC12) (fun hHeld => ?_)
  clear hK K
  try simp only [Act.put, List.setIfInBounds_toArray, List.set_cons_zero, List.set_cons_succ]
  refine wpAnyH_take (i := 5) (oi := ⟨some 3, _, _, _, _, none⟩) (v := ?_) rfl (by kernel_rfl) (by kernel_rfl) (by kernel_rfl) (fun _ _ _ h => h) (Or.inl ⟨by rfl, ?_⟩) (by assumption) ?_
  rotate_left
  · intro w hSw; go_simp; try with_reducible rfl
  try simp only [Act.put, List.setIfInBounds_toArray, List.set_cons_zero, List.set_cons_succ]
  refine wpAnyH_done (by kernel_rfl) ?_ _
  refine NoPanic.normal ?_
  have hB2 : Below w0.heap.size w0 _ := hHeld.below
  have ho2 := own_weak (base' := w0.heap.size) ho12 hs12
  rw [← Hq.out] at ho2
  have c37 := (hvb.below hB2).cellAt 37 _ h37
  clear HB HV Hhd ho11 ho12 hHeld
  obtain ⟨A2, k2, rfl⟩ := own_shape ho2
  have hpk := putp_any _ q m.ps.length _ _ (Rd.of_own ho2) (by omega) (by omega)
  obtain ⟨q3, hq3⟩ : ∃ q3, q3 = q ++ packed m.ps.length := ⟨_, rfl⟩
  have hq3l : q3.length ≤ 1000200 := by rw [hq3, List.length_append, length_packed]; omega
  rw [← hq3] at hpk
  have Hpk := hid hpk
  have Hq3 := hid hq3
  clear hpk hq3
  go_wp2_with (fail)
  refine Hpk.out.mono ?_
  rintro e w3 ⟨v3, rfl, ho3, hB3⟩
  have ho3 := own_weak (base' := w0.heap.size) ho3 hB2.size
  have hB3 := hB2.trans (hB3.mono hB2.size)
  have c37 := (hvb.below hB3).cellAt 37 _ h37
  clear hB2 Hpk ho2
  go_wp2
  clear c37
  go_loopw [3, 20] (fun bv iv wr => ∃ i : Nat, i ≤ m.ps.length ∧ iv = .int .i64 i ∧ wr.ownsRow w0.heap.size 5 1 bv (q3 ++ (m.ps.take i).flatMap tb1).length (bvs (q3 ++ (m.ps.take i).flatMap tb1)) ∧ Below w0.heap.size w0 wr) (fun _ i _ => m.ps.length - (intOf i).toNat)
  case atStart => exact ⟨0, Nat.zero_le _, rfl, by rw [List.take_zero, List.flatMap_nil, List.append_nil]; exact ho3, hB3⟩
  case round =>
    clear ho3 hB3
    obtain ⟨i, hi, rfl, hro, hBr⟩ := hrel
    by_cases hlt : i < m.ps.length
    · obtain ⟨t, ht⟩ : ∃ t, m.ps[i]? = some t := ⟨_, List.getElem?_eq_getElem hlt⟩
      have hI : (i : Int) < (m.ps.length : Int) := by omega
      obtain ⟨G, off, u, rfl, hG, hcu, hu⟩ := Rd.elem (hup.below hBr) i (bys t) (by rw [List.getElem?_map, ht]; rfl)
      obtain ⟨A1, c1, rfl⟩ := hu.shape
      have htl := hst t (List.mem_of_getElem? ht)
      have hlf := len_partsG (m.ps.take i) (fun x hx => hst x (List.mem_of_mem_take hx))
      have Htk := hid (take_snocT ht)
      obtain ⟨P, hP, hro⟩ : ∃ P, P = q3 ++ (m.ps.take i).flatMap tb1 ∧ wr.ownsRow w0.heap.size 5 1 _ P.length (bvs P) := ⟨_, rfl, hro⟩
      have hPl : P.length ≤ 1100000000 := by rw [hP, List.length_append]; rw [List.length_take] at hlf; omega
      have hput := putt_any _ _ P t _ _ wr (Rd.of_own hro) hu (by omega) (by omega)
      obtain ⟨Z, hZ⟩ : ∃ Z, Z = P ++ (packed t.length ++ t) := ⟨_, rfl⟩
      rw [← hZ] at hput
      have Hput := hid hput
      have HP := hid hP
      have HZ := hid hZ
      obtain ⟨AR, cr, rfl⟩ := own_shape hro
      clear hP ht hlf hput hZ
      go_wp2_with (fail)
      refine Hput.out.mono ?_
      rintro e w4 ⟨v4, rfl, ho4, hB4⟩
      have ho4 := own_weak (base' := w0.heap.size) ho4 hBr.size
      have hB4 := hBr.trans (hB4.mono hBr.size)
      go_wp2
      go_roundw
      case rel =>
        refine ⟨i + 1, by omega, by go_num, ?_, hB4⟩
        rw [Htk.out, List.flatMap_append, List.flatMap_singleton, ← List.append_assoc, ← HP.out]
        rw [show P ++ tb1 t = Z from HZ.out.symm]
        exact ho4
      case measure => simp [intOf]; omega
    · have hi' : i = m.ps.length := by omega
      subst hi'
      have hI : ¬ (m.ps.length : Int) < (m.ps.length : Int) := by omega
      rw [List.take_length] at hro
      have hby : Vt.by m = q3 ++ m.ps.flatMap tb1 := by rw [Hq3.out, Hq.out]; rfl
      have Hby := hid hby
      clear hby
      go_wp2
      go_ret
      exact ⟨_, rfl, by rw [Hby.out]; exact own_weak hro hBs, hB.trans (hBr.mono hBs)⟩
set_option maxRecDepth 100000 in
set_option maxHeartbeats 4000000 in
theorem refusal13_any (m : Vt) (ub up : Value) (F1 F2 : Nat → Prop) (w : World) (hm : VtIn m) (hs : VtSm m) (hub : Rd w F1 ub (bys m.b)) (hup : Rd w F2 up (tx m.ps)) :
    Calls Try.prog 27 #[m.val ub up] w fun e w' => e = .returned (.int .i64 (errV m : Int)) ∧ Below w.heap.size w w' := by
  have hh := m.hh
  have hsz := fun W (hn : m.ps.length ≤ 1000) h1 h2 => size13g_any m ub up F1 F2 W hs.b hn hs.p h1 h2
  have hfm := fun W h1 h2 => formed13_any m ub up F1 F2 W hm h1 h2
  have hpn := hs.n
  have herr : errV m = if 16 < m.ps.length then 4 else if 65536 < (Vt.by m).length then 4 else if partsV m then 0 else 15 := rfl
  have hby := len_by13 m
  have hpg : m.ps.length ≤ 16 → (m.ps.flatMap tb1).length ≤ 17000000 := fun h => by have := len_partsG m.ps hs.p; omega
  have hpb := psz_bd m.b.length
  have hpp := psz_bd m.ps.length
  have hsb := hs.b
  obtain ⟨er, her⟩ : ∃ er, er = errV m := ⟨_, rfl⟩
  obtain ⟨N, hN⟩ : ∃ N, N = (Vt.by m).length := ⟨_, rfl⟩
  obtain ⟨pv, hpv⟩ : ∃ pv, pv = partsV m := ⟨_, rfl⟩
  rw [← her] at herr ⊢
  rw [← hN] at hsz herr hby
  rw [← hpv] at hfm herr
  have hNb : m.ps.length ≤ 16 → N ≤ 30000000 := fun h => by have := hpg h; omega
  clear her hN hpv hby hpg hpb hpp hsb hs hm
  obtain ⟨AB, cb, rfl⟩ := hub.shape
  obtain ⟨AP, cpp, rfl, _, _⟩ := hup.slShape
  unfold Vt.val at hsz hfm ⊢
  have hml := vt_parts hh (.slice AB m.b.length cb) (.slice AP m.ps.length cpp)
  have hmn := len_vt m (.slice AB m.b.length cb) (.slice AP m.ps.length cpp)
  obtain ⟨l, hl⟩ : ∃ l, l = m.l (.slice AB m.b.length cb) (.slice AP m.ps.length cpp) := ⟨_, rfl⟩
  rw [← hl] at hsz hfm hml hmn ⊢
  clear hl
  have Hml := hid hml
  have Hmn := hid hmn
  have Hfm := hid hfm
  clear hml hmn hfm
  have hvb := Blk.new' w 27 l
  have hB : Below w.heap.size w (w.alloc (.cells l.toArray 27)) := (Below.refl _ _).alloc (Nat.le_refl _) _
  have hub := hub.below hB
  have hup := hup.below hB
  have c37 := hvb.cellAt 37 _ Hml.out
  by_cases h16 : 16 < m.ps.length
  · have hI : (16 : Int) < (m.ps.length : Int) := by omega
    rw [if_pos h16] at herr
    subst herr
    clear hsz Hfm hNb
    go_enter Try.func27, Try.ntmps27
    go_wp2
    go_ret
    exact ⟨rfl, hB⟩
  have hI : ¬ (16 : Int) < (m.ps.length : Int) := by omega
  rw [if_neg h16] at herr
  have hNb := hNb (by omega)
  have Hsz := hid (fun W h1 h2 => hsz W (by omega) h1 h2)
  clear hsz
  go_enter Try.func27, Try.ntmps27
  go_wp2_with (first | refine wp_ldg 27 (.tmp 1) rfl rfl rfl hvb.whole Try.underlying27 rfl (by rw [Hmn.out]; exact sizeVt) ?_)
  refine (Hsz.out _ hub hup).mono ?_
  rintro e w1 ⟨rfl, hB1⟩
  have hvb := hvb.below hB1
  have hub := hub.below hB1
  have hup := hup.below hB1
  have hB1' := hB.trans (hB1.mono hB.size)
  clear c37 Hsz hB1
  by_cases hN : 65536 < N
  · have hI2 : (65536 : Int) < (N : Int) := by omega
    rw [if_pos hN] at herr
    subst herr
    clear Hfm
    go_wp2
    go_ret
    exact ⟨rfl, hB1'⟩
  have hI2 : ¬ (65536 : Int) < (N : Int) := by omega
  rw [if_neg hN] at herr
  have Herr := hid herr
  clear herr
  go_wp2_with (first | refine wp_ld 27 (.tmp 1) rfl rfl rfl hvb.whole Try.underlying27 rfl (by rw [Hmn.out]; exact sizeVt) ?_)
  refine (Hfm.out _ hub hup).mono ?_
  rintro e w2 ⟨rfl, hB2⟩
  have hB2' := hB1'.trans (hB2.mono hB1'.size)
  clear Hfm hvb hub hup
  have herr := Herr.out
  clear Herr hB2
  cases pv with
  | false =>
    have herr2 : er = 15 := herr
    clear herr
    subst herr2
    go_wp2
    go_ret
    exact ⟨rfl, hB2'⟩
  | true =>
    have herr2 : er = 0 := herr
    clear herr
    subst herr2
    go_wp2
    go_ret
    exact ⟨rfl, hB2'⟩
set_option maxRecDepth 100000 in
set_option maxHeartbeats 4000000 in
theorem bput13_any (m : Vt) (ub up : Value) (F1 F2 : Nat → Prop) (w : World) (hm : VtIn m) (hs : VtSm m) (hub : Rd w F1 ub (bys m.b)) (hup : Rd w F2 up (tx m.ps)) :
    Calls Try.prog 11 #[m.val ub up] w fun e w' => ∃ v', e = .returned (.tuple #[v', .int .i64 (errV m : Int)]) ∧ NewB w w' v' (if errV m = 0 then Vt.by m else []) := by
  have hh := m.hh
  have hrf := fun W h1 h2 => refusal13_any m ub up F1 F2 W hm hs h1 h2
  have hbo := fun W (hn : m.ps.length ≤ 1000) h1 h2 => bytesOf13_any m ub up F1 F2 W hs.b hn hs.p h1 h2
  have he0 : errV m = 0 → m.ps.length ≤ 16 := fun h => by
    unfold errV at h
    split at h
    · cases h
    · omega
  obtain ⟨er, her⟩ : ∃ er, er = errV m := ⟨_, rfl⟩
  obtain ⟨P, hP⟩ : ∃ P, P = Vt.by m := ⟨_, rfl⟩
  rw [← her] at hrf he0 ⊢
  rw [← hP] at hbo ⊢
  clear her hP hs hm
  obtain ⟨AB, cb, rfl⟩ := hub.shape
  obtain ⟨AP, cpp, rfl, _, _⟩ := hup.slShape
  unfold Vt.val at hrf hbo ⊢
  have hmn := len_vt m (.slice AB m.b.length cb) (.slice AP m.ps.length cpp)
  obtain ⟨l, hl⟩ : ∃ l, l = m.l (.slice AB m.b.length cb) (.slice AP m.ps.length cpp) := ⟨_, rfl⟩
  rw [← hl] at hrf hbo hmn ⊢
  clear hl
  have Hmn := hid hmn
  have Hrf := hid hrf
  clear hmn hrf
  have hvb := Blk.new' w 27 l
  have hB : Below w.heap.size w (w.alloc (.cells l.toArray 27)) := (Below.refl _ _).alloc (Nat.le_refl _) _
  have hub := hub.below hB
  have hup := hup.below hB
  by_cases he : er = 0
  · have Hbo := hid (fun W h1 h2 => hbo W (by have := he0 he; omega) h1 h2)
    subst he
    clear hbo he0
    go_enter Try.func11, Try.ntmps11
    go_wp2_with (first | refine wp_ld 27 (.tmp 1) rfl rfl rfl hvb.whole Try.underlying27 rfl (by rw [Hmn.out]; exact sizeVt) ?_)
    refine (Hrf.out _ hub hup).mono ?_
    rintro e w1 ⟨rfl, hB1⟩
    have hvb := hvb.below hB1
    have hub := hub.below hB1
    have hup := hup.below hB1
    have hB1' := hB.trans (hB1.mono hB.size)
    clear Hrf hB1
    go_wp2_with (first | refine wp_ld 27 (.tmp 1) rfl rfl rfl hvb.whole Try.underlying27 rfl (by rw [Hmn.out]; exact sizeVt) ?_)
    refine (Hbo.out _ hub hup).mono ?_
    rintro e w2 ⟨v2, rfl, ho2, hB2⟩
    have hB2' := hB1'.trans (hB2.mono hB1'.size)
    obtain ⟨A2, k2, rfl⟩ := own_shape ho2
    go_wp2
    go_ret2
    exact ⟨_, rfl, own_weak ho2 hB1'.size, hB2'⟩
  · have hne : ((er : Int) == 0) = false := beq_eq_false_iff_ne.2 (by omega)
    have hne2 : ((er : Int) != 0) = true := bne_iff_ne.2 (by omega)
    rw [if_neg he]
    clear hbo he0 he
    go_enter Try.func11, Try.ntmps11
    go_wp2_with (first | refine wp_ld 27 (.tmp 1) rfl rfl rfl hvb.whole Try.underlying27 rfl (by rw [Hmn.out]; exact sizeVt) ?_)
    refine (Hrf.out _ hub hup).mono ?_
    rintro e w1 ⟨rfl, hB1⟩
    have hB1' := hB.trans (hB1.mono hB.size)
    clear Hrf hB1 hvb hub hup
    go_wp2
    go_ret2
    exact ⟨_, rfl, World.ownsRow_nil _ _ _ _, hB1'⟩
end Go.Proofs.Ytkoncjcnpconkaa
