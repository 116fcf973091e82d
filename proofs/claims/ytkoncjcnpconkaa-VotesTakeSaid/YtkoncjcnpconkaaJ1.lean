/- J1: layer 13: contracts of the document's Bytes, Same. -/
import Derived.Test.YtkoncjcnpconkaaJ0
namespace Go.Proofs.Ytkoncjcnpconkaa
open Go.RowKit Go.V
set_option maxRecDepth 100000 in
set_option maxHeartbeats 4000000 in
theorem rby13_any (m : Vt) (ub up : Value) (w : World) (hlo : longV m = false) (hub : Rd w (fun b => b < w.heap.size) ub (bys m.b)) (hup : Rd w (fun b => b < w.heap.size) up (tx m.ps)) :
    Calls Try.prog 29 #[m.val ub up] w fun e w' => ∃ v', e = .returned v' ∧ NewB w w' v' (Vt.by m) := by
  have hh := m.hh
  obtain ⟨hb3, hp20, hpl⟩ := vlong_bd hlo
  obtain ⟨AB, cb, rfl⟩ := hub.shape
  obtain ⟨AP, cpp, rfl, _, _⟩ := hup.slShape
  unfold Vt.val
  have hvb := Blk.new' w 27 (m.l (.slice AB m.b.length cb) (.slice AP m.ps.length cpp))
  have hB : Below w.heap.size w (w.alloc (.cells (m.l (.slice AB m.b.length cb) (.slice AP m.ps.length cpp)).toArray 27)) := (Below.refl _ _).alloc (Nat.le_refl _) _
  have hub := hub.below hB
  have hup := hup.below hB
  clear hlo
  have c0 := hvb.cellAt 0 _ rfl
  have hw0 := un_wrap m.k
  go_enter Try.func29, Try.ntmps29
  go_wp2_with (fail)
  obtain ⟨w0, hw1⟩ : ∃ x, x = w.alloc (.cells (m.l (.slice AB m.b.length cb) (.slice AP m.ps.length cpp)).toArray 27) := ⟨_, rfl⟩
  rw [← hw1] at hvb hB hub hup c0 ⊢
  clear hw1
  obtain ⟨g, hg⟩ : ∃ g, g = w.heap.size := ⟨_, rfl⟩
  rw [← hg] at hvb c0 ⊢
  clear hg
  refine (refx_any (un m.k) 1 _ (un_lt _)).mono ?_
  rintro e x0 ⟨v0, rfl, ho0, hB0⟩
  have hvb := hvb.below hB0
  have hub := hub.below hB0
  have hup := hup.below hB0
  have hB := hB.trans (hB0.mono hB.size)
  obtain ⟨q0, hq0⟩ : ∃ q, q = fixR 1 (un m.k) := ⟨_, rfl⟩
  have hl0 : q0.length ≤ 3010 := by rw [hq0]; rw [len_fixR1 _]; omega
  rw [← hq0] at ho0
  have Hq0 := hid hq0
  clear hq0 c0 hw0
  obtain ⟨A0, k0, rfl⟩ := own_shape ho0
  go_wp2_with (refine wp_app (.tmp 5) (.tmp 9) slB rfl rfl rfl (World.ownsRow_nil _ w.heap.size _ _) rfl (Rd.of_own ho0).src (oneCell_bvs _) (by simp only [maxLen]; omega) (by omega) hB.size ?_; intro y0 z0 hro2 hG0 _; refine wp_stop ?_)
  have hG0 : x0.grownBy z0 none := hG0
  have hro2 : z0.ownsRow w.heap.size 5 1 y0 q0.length (bvs q0) := by simpa using hro2
  have hvb := hvb.keep (hG0.block _ hvb.lt (by simp))
  have hB := hB.grown hG0 hB.size (fun b h => by cases h)
  have hub := hub.keep (fun b hb hF => ⟨hF, hG0.block _ hb (by simp)⟩)
  have hup := hup.keep (fun b hb hF => ⟨hF, hG0.block _ hb (by simp)⟩)
  obtain ⟨P0, hP0, hro⟩ : ∃ P, P = q0 ∧ z0.ownsRow w.heap.size 5 1 y0 P.length (bvs P) := ⟨_, rfl, hro2⟩
  have hm0 : P0.length ≤ 3010 := by rw [hP0]; omega
  have HP0 := hid hP0
  clear hP0 hro2 ho0 hB0 hG0
  refine wp_go ?_
  have c0 := hvb.cellAt 1 _ rfl
  have hw0 := un_wrap m.v
  go_wp2_with (fail)
  refine (refx_any (un m.v) 2 _ (un_lt _)).mono ?_
  rintro e x2 ⟨v2, rfl, ho2, hB2⟩
  have hvb := hvb.below hB2
  have hub := hub.below hB2
  have hup := hup.below hB2
  have hB := hB.trans (hB2.mono hB.size)
  have hro := own_bel hro hB2
  obtain ⟨q2, hq2⟩ : ∃ q, q = fixR 2 (un m.v) := ⟨_, rfl⟩
  have hl2 : q2.length ≤ 3010 := by rw [hq2]; rw [len_fixR2 _]; omega
  rw [← hq2] at ho2
  have Hq2 := hid hq2
  clear hq2 c0 hw0
  obtain ⟨A2, k2, rfl⟩ := own_shape ho2
  go_wp2_with (refine wp_app (.tmp 11) (.tmp 15) slB rfl rfl rfl hro rfl (Rd.of_own ho2).src (oneCell_bvs _) (by simp only [maxLen]; omega) (by omega) hB.size ?_; intro y2 z2 hro2 hG2 _; refine wp_stop ?_)
  have hvb := hvb.keep (hG2.block _ hvb.lt (blk_row hvb hro (by decide)))
  have hub := hub.keep (fun b hb hF => ⟨hF, hG2.block _ hb (fun h => by have := (hro.lt b h.symm).1; have h2 : b < w.heap.size := hF; omega)⟩)
  have hup := hup.keep (fun b hb hF => ⟨hF, hG2.block _ hb (fun h => by have := (hro.lt b h.symm).1; have h2 : b < w.heap.size := hF; omega)⟩)
  have hB := hB.grown hG2 hB.size (fun k hk => (hro.lt k hk).1)
  obtain ⟨P2, hP2, hro⟩ : ∃ P, P = P0 ++ q2 ∧ z2.ownsRow w.heap.size 5 1 y2 P.length (bvs P) := ⟨_, rfl, own_join hro2⟩
  have hm2 : P2.length ≤ 9030 := by rw [hP2]; rw [List.length_append]; omega
  have HP2 := hid hP2
  clear hP2 hro2 ho2 hB2 hG2
  refine wp_go ?_
  have c0 := hvb.cellAt 2 _ rfl
  have hw0 := un_wrap m.r
  go_wp2_with (fail)
  refine (refx_any (un m.r) 2 _ (un_lt _)).mono ?_
  rintro e x3 ⟨v3, rfl, ho3, hB3⟩
  have hvb := hvb.below hB3
  have hub := hub.below hB3
  have hup := hup.below hB3
  have hB := hB.trans (hB3.mono hB.size)
  have hro := own_bel hro hB3
  obtain ⟨q3, hq3⟩ : ∃ q, q = fixR 2 (un m.r) := ⟨_, rfl⟩
  have hl3 : q3.length ≤ 3010 := by rw [hq3]; rw [len_fixR2 _]; omega
  rw [← hq3] at ho3
  have Hq3 := hid hq3
  clear hq3 c0 hw0
  obtain ⟨A3, k3, rfl⟩ := own_shape ho3
  go_wp2_with (refine wp_app (.tmp 17) (.tmp 21) slB rfl rfl rfl hro rfl (Rd.of_own ho3).src (oneCell_bvs _) (by simp only [maxLen]; omega) (by omega) hB.size ?_; intro y3 z3 hro2 hG3 _; refine wp_stop ?_)
  have hvb := hvb.keep (hG3.block _ hvb.lt (blk_row hvb hro (by decide)))
  have hub := hub.keep (fun b hb hF => ⟨hF, hG3.block _ hb (fun h => by have := (hro.lt b h.symm).1; have h2 : b < w.heap.size := hF; omega)⟩)
  have hup := hup.keep (fun b hb hF => ⟨hF, hG3.block _ hb (fun h => by have := (hro.lt b h.symm).1; have h2 : b < w.heap.size := hF; omega)⟩)
  have hB := hB.grown hG3 hB.size (fun k hk => (hro.lt k hk).1)
  obtain ⟨P3, hP3, hro⟩ : ∃ P, P = P2 ++ q3 ∧ z3.ownsRow w.heap.size 5 1 y3 P.length (bvs P) := ⟨_, rfl, own_join hro2⟩
  have hm3 : P3.length ≤ 12040 := by rw [hP3]; rw [List.length_append]; omega
  have HP3 := hid hP3
  clear hP3 hro2 ho3 hB3 hG3
  refine wp_go ?_
  have c0 := hvb.cellAt 3 _ rfl
  have hw0 := un_wrap m.s
  go_wp2_with (fail)
  refine (refx_any (un m.s) 2 _ (un_lt _)).mono ?_
  rintro e x4 ⟨v4, rfl, ho4, hB4⟩
  have hvb := hvb.below hB4
  have hub := hub.below hB4
  have hup := hup.below hB4
  have hB := hB.trans (hB4.mono hB.size)
  have hro := own_bel hro hB4
  obtain ⟨q4, hq4⟩ : ∃ q, q = fixR 2 (un m.s) := ⟨_, rfl⟩
  have hl4 : q4.length ≤ 3010 := by rw [hq4]; rw [len_fixR2 _]; omega
  rw [← hq4] at ho4
  have Hq4 := hid hq4
  clear hq4 c0 hw0
  obtain ⟨A4, k4, rfl⟩ := own_shape ho4
  go_wp2_with (refine wp_app (.tmp 23) (.tmp 27) slB rfl rfl rfl hro rfl (Rd.of_own ho4).src (oneCell_bvs _) (by simp only [maxLen]; omega) (by omega) hB.size ?_; intro y4 z4 hro2 hG4 _; refine wp_stop ?_)
  have hvb := hvb.keep (hG4.block _ hvb.lt (blk_row hvb hro (by decide)))
  have hub := hub.keep (fun b hb hF => ⟨hF, hG4.block _ hb (fun h => by have := (hro.lt b h.symm).1; have h2 : b < w.heap.size := hF; omega)⟩)
  have hup := hup.keep (fun b hb hF => ⟨hF, hG4.block _ hb (fun h => by have := (hro.lt b h.symm).1; have h2 : b < w.heap.size := hF; omega)⟩)
  have hB := hB.grown hG4 hB.size (fun k hk => (hro.lt k hk).1)
  obtain ⟨P4, hP4, hro⟩ : ∃ P, P = P3 ++ q4 ∧ z4.ownsRow w.heap.size 5 1 y4 P.length (bvs P) := ⟨_, rfl, own_join hro2⟩
  have hm4 : P4.length ≤ 15050 := by rw [hP4]; rw [List.length_append]; omega
  have HP4 := hid hP4
  clear hP4 hro2 ho4 hB4 hG4
  refine wp_go ?_
  go_wp2_with (refine wp_ld 23 (.tmp 30) rfl rfl rfl (hvb.range 4 _ (vt_hash hh _ _)) Try.underlying23 rfl (by rw [len_bvs, hh]; exact size25) ?_)
  refine (rbytes_any m.h _ hh).mono ?_
  rintro e x5 ⟨v5, rfl, ho5, hB5⟩
  have hvb := hvb.below hB5
  have hub := hub.below hB5
  have hup := hup.below hB5
  have hB := hB.trans (hB5.mono hB.size)
  have hro := own_bel hro hB5
  obtain ⟨q5, hq5⟩ : ∃ q, q = m.h := ⟨_, rfl⟩
  have hl5 : q5.length ≤ 3010 := by rw [hq5]; rw [hh]; omega
  rw [← hq5] at ho5
  have Hq5 := hid hq5
  clear hq5
  obtain ⟨A5, k5, rfl⟩ := own_shape ho5
  go_wp2_with (refine wp_app (.tmp 29) (.tmp 32) slB rfl rfl rfl hro rfl (Rd.of_own ho5).src (oneCell_bvs _) (by simp only [maxLen]; omega) (by omega) hB.size ?_; intro y5 z5 hro2 hG5 _; refine wp_stop ?_)
  have hvb := hvb.keep (hG5.block _ hvb.lt (blk_row hvb hro (by decide)))
  have hub := hub.keep (fun b hb hF => ⟨hF, hG5.block _ hb (fun h => by have := (hro.lt b h.symm).1; have h2 : b < w.heap.size := hF; omega)⟩)
  have hup := hup.keep (fun b hb hF => ⟨hF, hG5.block _ hb (fun h => by have := (hro.lt b h.symm).1; have h2 : b < w.heap.size := hF; omega)⟩)
  have hB := hB.grown hG5 hB.size (fun k hk => (hro.lt k hk).1)
  obtain ⟨P5, hP5, hro⟩ : ∃ P, P = P4 ++ q5 ∧ z5.ownsRow w.heap.size 5 1 y5 P.length (bvs P) := ⟨_, rfl, own_join hro2⟩
  have hm5 : P5.length ≤ 18060 := by rw [hP5]; rw [List.length_append]; omega
  have HP5 := hid hP5
  clear hP5 hro2 ho5 hB5 hG5
  refine wp_go ?_
  have c0 := hvb.cellAt 36 _ (vt_body hh _ _)
  go_wp2_with (fail)
  refine (reft_any _ m.b _ _ hub (by omega)).mono ?_
  rintro e x6 ⟨v6, rfl, ho6, hB6⟩
  have hvb := hvb.below hB6
  have hub := hub.below hB6
  have hup := hup.below hB6
  have hB := hB.trans (hB6.mono hB.size)
  have hro := own_bel hro hB6
  obtain ⟨q6, hq6⟩ : ∃ q, q = packed m.b.length ++ m.b := ⟨_, rfl⟩
  have hl6 : q6.length ≤ 3010 := by rw [hq6]; rw [List.length_append, length_packed]; have := psz_bd m.b.length; omega
  rw [← hq6] at ho6
  have Hq6 := hid hq6
  clear hq6 c0
  obtain ⟨A6, k6, rfl⟩ := own_shape ho6
  go_wp2_with (refine wp_app (.tmp 34) (.tmp 37) slB rfl rfl rfl hro rfl (Rd.of_own ho6).src (oneCell_bvs _) (by simp only [maxLen]; omega) (by omega) hB.size ?_; intro y6 z6 hro2 hG6 _; refine wp_stop ?_)
  have hvb := hvb.keep (hG6.block _ hvb.lt (blk_row hvb hro (by decide)))
  have hub := hub.keep (fun b hb hF => ⟨hF, hG6.block _ hb (fun h => by have := (hro.lt b h.symm).1; have h2 : b < w.heap.size := hF; omega)⟩)
  have hup := hup.keep (fun b hb hF => ⟨hF, hG6.block _ hb (fun h => by have := (hro.lt b h.symm).1; have h2 : b < w.heap.size := hF; omega)⟩)
  have hB := hB.grown hG6 hB.size (fun k hk => (hro.lt k hk).1)
  obtain ⟨P6, hP6, hro⟩ : ∃ P, P = P5 ++ q6 ∧ z6.ownsRow w.heap.size 5 1 y6 P.length (bvs P) := ⟨_, rfl, own_join hro2⟩
  have hm6 : P6.length ≤ 21070 := by rw [hP6]; rw [List.length_append]; omega
  have HP6 := hid hP6
  clear hP6 hro2 ho6 hB6 hG6
  refine wp_go ?_
  have c0 := hvb.cellAt 37 _ (vt_parts hh _ _)
  have hw0 : IntKind.u64.wrap (m.ps.length : Int) = (m.ps.length : Int) := by rw [IntKind.wrap_u64]; omega
  go_wp2_with (fail)
  refine (refp_any m.ps.length _ (by omega)).mono ?_
  rintro e x7 ⟨v7, rfl, ho7, hB7⟩
  have hvb := hvb.below hB7
  have hub := hub.below hB7
  have hup := hup.below hB7
  have hB := hB.trans (hB7.mono hB.size)
  have hro := own_bel hro hB7
  obtain ⟨q7, hq7⟩ : ∃ q, q = packed m.ps.length := ⟨_, rfl⟩
  have hl7 : q7.length ≤ 3010 := by rw [hq7]; rw [length_packed]; have := psz_bd m.ps.length; omega
  rw [← hq7] at ho7
  have Hq7 := hid hq7
  clear hq7 c0 hw0
  obtain ⟨A7, k7, rfl⟩ := own_shape ho7
  go_wp2_with (refine wp_app (.tmp 39) (.tmp 44) slB rfl rfl rfl hro rfl (Rd.of_own ho7).src (oneCell_bvs _) (by simp only [maxLen]; omega) (by omega) hB.size ?_; intro y7 z7 hro2 hG7 _; refine wp_stop ?_)
  have hvb := hvb.keep (hG7.block _ hvb.lt (blk_row hvb hro (by decide)))
  have hub := hub.keep (fun b hb hF => ⟨hF, hG7.block _ hb (fun h => by have := (hro.lt b h.symm).1; have h2 : b < w.heap.size := hF; omega)⟩)
  have hup := hup.keep (fun b hb hF => ⟨hF, hG7.block _ hb (fun h => by have := (hro.lt b h.symm).1; have h2 : b < w.heap.size := hF; omega)⟩)
  have hB := hB.grown hG7 hB.size (fun k hk => (hro.lt k hk).1)
  obtain ⟨P7, hP7, hro⟩ : ∃ P, P = P6 ++ q7 ∧ z7.ownsRow w.heap.size 5 1 y7 P.length (bvs P) := ⟨_, rfl, own_join hro2⟩
  have hm7 : P7.length ≤ 24080 := by rw [hP7]; rw [List.length_append]; omega
  have HP7 := hid hP7
  clear hP7 hro2 ho7 hB7 hG7
  refine wp_go ?_
  go_wp2
  have HPS : Hid (P7 = ((Vt.hd m) ++ (packed m.b.length ++ m.b)) ++ packed m.ps.length) := by
    show _ = _
    rw [HP7.out, HP6.out, HP5.out, HP4.out, HP3.out, HP2.out, HP0.out, Hq0.out, Hq2.out, Hq3.out, Hq4.out, Hq5.out, Hq6.out, Hq7.out]
    rfl
  clear Hq0 Hq2 Hq3 Hq4 Hq5 Hq6 Hq7 HP0 HP2 HP3 HP4 HP5 HP6 HP7
  go_loopw [3, 4] (fun bv iv wr => ∃ i : Nat, i ≤ m.ps.length ∧ iv = .int .i64 i ∧ wr.ownsRow w.heap.size 5 1 bv (P7 ++ (m.ps.take i).flatMap tb1).length (bvs (P7 ++ (m.ps.take i).flatMap tb1)) ∧ Blk wr g 27 (m.l (.slice AB m.b.length cb) (.slice AP m.ps.length cpp)) ∧ Rd wr (fun b => b < w.heap.size) (.slice AP m.ps.length cpp) (tx m.ps) ∧ Below w.heap.size w wr) (fun _ i _ => m.ps.length - (intOf i).toNat)
  case atStart => exact ⟨0, Nat.zero_le _, rfl, by rw [List.take_zero, List.flatMap_nil, List.append_nil]; exact hro, hvb, hup, hB⟩
  case round =>
    clear hro hvb hup hB hub
    obtain ⟨i, hi, rfl, hro, hvb, hup, hB⟩ := hrel
    have c0 := hvb.cellAt 37 _ (vt_parts hh _ _)
    by_cases hlt : i < m.ps.length
    · obtain ⟨t, ht⟩ : ∃ t, m.ps[i]? = some t := ⟨_, List.getElem?_eq_getElem hlt⟩
      have hI : (i : Int) < (m.ps.length : Int) := by omega
      obtain ⟨G, off, u, rfl, hG, hcu, hu⟩ := Rd.elem hup i (bys t) (by rw [List.getElem?_map, ht]; rfl)
      obtain ⟨A1, c1, rfl⟩ := hu.shape
      have htl := hpl t (List.mem_of_getElem? ht)
      have hlf := len_parts (m.ps.take i) (fun x hx => hpl x (List.mem_of_mem_take hx))
      have Htk := hid (take_snocT ht)
      obtain ⟨P, hP, hro⟩ : ∃ P, P = P7 ++ (m.ps.take i).flatMap tb1 ∧ wr.ownsRow w.heap.size 5 1 _ P.length (bvs P) := ⟨_, rfl, hro⟩
      have hPl : P.length ≤ 100000 := by rw [hP, List.length_append]; rw [List.length_take] at hlf; omega
      have HP := hid hP
      clear hP ht hlf
      go_wp2_with (fail)
      refine (reft_any _ t _ _ hu (by omega)).mono ?_
      rintro e x9 ⟨v9, rfl, ho9, hB9⟩
      obtain ⟨q, hq⟩ : ∃ q, q = packed t.length ++ t := ⟨_, rfl⟩
      have hql : q.length ≤ 3010 := by rw [hq, List.length_append, length_packed]; have := psz_bd t.length; omega
      rw [← hq] at ho9
      have Hq := hid hq
      clear hq
      have hvb := hvb.below hB9
      have hup := hup.below hB9
      have hB := hB.trans (hB9.mono hB.size)
      have hro := own_bel hro hB9
      obtain ⟨A9, k9, rfl⟩ := own_shape ho9
      clear c0 hcu hu
      go_wp2_with (refine wp_app (.tmp 53) (.tmp 59) slB rfl rfl rfl hro rfl (Rd.of_own ho9).src (oneCell_bvs _) (by simp only [maxLen]; omega) (by omega) hB.size ?_; intro y9 z9 hro2 hG9 _; refine wp_stop ?_)
      have hvb := hvb.keep (hG9.block _ hvb.lt (blk_row hvb hro (by decide)))
      have hup := hup.keep (fun b hb hF => ⟨hF, hG9.block _ hb (fun h => by have := (hro.lt b h.symm).1; have h2 : b < w.heap.size := hF; omega)⟩)
      have hB := hB.grown hG9 hB.size (fun k hk => (hro.lt k hk).1)
      have hro2 := own_join hro2
      clear hro ho9 hB9 hG9
      refine wp_go ?_
      go_wp2
      go_roundw
      case rel =>
        refine ⟨i + 1, by omega, by go_num, ?_, hvb, hup, hB⟩
        rw [Htk.out, List.flatMap_append, List.flatMap_singleton, ← List.append_assoc, ← HP.out]
        rw [show tb1 t = q from Hq.out.symm]
        exact hro2
      case measure => simp [intOf]; omega
    · have hi' : i = m.ps.length := by omega
      subst hi'
      have hI : ¬ (m.ps.length : Int) < (m.ps.length : Int) := by omega
      rw [List.take_length] at hro
      have hby : Vt.by m = P7 ++ m.ps.flatMap tb1 := by
        rw [HPS.out]; rfl
      have Hby := hid hby
      clear hby
      go_wp2
      go_ret
      exact ⟨_, rfl, by rw [Hby.out]; exact ⟨hro, hB⟩⟩
set_option maxRecDepth 100000 in
set_option maxHeartbeats 2000000 in
theorem same13_any (m : Vt) (ub1 up1 ub2 up2 : Value) (F1 F2 F3 F4 : Nat → Prop) (w : World) (h1 : Rd w F1 ub1 (bys m.b)) (h2 : Rd w F2 up1 (tx m.ps)) (h3 : Rd w F3 ub2 (bys m.b)) (h4 : Rd w F4 up2 (tx m.ps)) (hn : m.ps.length ≤ 1000000) :
    Calls Try.prog 15 #[m.val ub1 up1, m.val ub2 up2] w fun e w' => e = .returned (.bool true) ∧ Below w.heap.size w w' := by
  have hh := m.hh
  obtain ⟨A1, c1, rfl⟩ := h1.shape
  obtain ⟨A2, c2, rfl, _, _⟩ := h2.slShape
  obtain ⟨A3, c3, rfl⟩ := h3.shape
  obtain ⟨A4, c4, rfl, _, _⟩ := h4.slShape
  unfold Vt.val
  obtain ⟨l1, hl1⟩ : ∃ l, l = m.l (.slice A1 m.b.length c1) (.slice A2 m.ps.length c2) := ⟨_, rfl⟩
  obtain ⟨l2, hl2⟩ : ∃ l, l = m.l (.slice A3 m.b.length c3) (.slice A4 m.ps.length c4) := ⟨_, rfl⟩
  rw [← hl1, ← hl2]
  have hal1 : Below w.heap.size w (w.alloc (.cells l1.toArray 27)) := (Below.refl _ _).alloc (Nat.le_refl _) _
  have x1 := Blk.new' w 27 l1
  obtain ⟨w1, hw1⟩ : ∃ x, x = w.alloc (.cells l1.toArray 27) := ⟨_, rfl⟩
  have hsz : w1.heap.size = w.heap.size + 1 := by rw [hw1]; simp
  have x2 := Blk.new' w1 27 l2
  have hal2 : Below w1.heap.size w1 (w1.alloc (.cells l2.toArray 27)) := (Below.refl _ _).alloc (Nat.le_refl _) _
  have x1 : Blk w1 w.heap.size 27 l1 := by rw [hw1]; exact x1
  have hB : Below w.heap.size w w1 := by rw [hw1]; exact hal1
  have x1 := x1.below hal2
  have hB2 := hB.trans (hal2.mono hB.size)
  have h1 := h1.below hB2
  have h2 := h2.below hB2
  have h3 := h3.below hB2
  have h4 := h4.below hB2
  rw [hsz] at x2
  clear hsz hal1 hal2 hB
  subst hw1
  go_enter Try.func15, Try.ntmps15
  have c0 := x1.cellAt 0 (.int .i64 m.k) (by rw [hl1]; rfl)
  have c2 := x1.cellAt 1 (.int .i64 m.v) (by rw [hl1]; rfl)
  have c3 := x1.cellAt 2 (.int .i64 m.r) (by rw [hl1]; rfl)
  have c4 := x1.cellAt 3 (.int .i64 m.s) (by rw [hl1]; rfl)
  have c37 := x1.cellAt 36 _ (by rw [hl1]; exact vt_body hh _ _)
  have c38 := x1.cellAt 37 _ (by rw [hl1]; exact vt_parts hh _ _)
  have d0 := x2.cellAt 0 (.int .i64 m.k) (by rw [hl2]; rfl)
  have d2 := x2.cellAt 1 (.int .i64 m.v) (by rw [hl2]; rfl)
  have d3 := x2.cellAt 2 (.int .i64 m.r) (by rw [hl2]; rfl)
  have d4 := x2.cellAt 3 (.int .i64 m.s) (by rw [hl2]; rfl)
  have d37 := x2.cellAt 36 _ (by rw [hl2]; exact vt_body hh _ _)
  have d38 := x2.cellAt 37 _ (by rw [hl2]; exact vt_parts hh _ _)
  have r1 := x1.range 4 (bvs m.h) (by rw [hl1]; exact vt_hash hh _ _)
  have r2 := x2.range 4 (bvs m.h) (by rw [hl2]; exact vt_hash hh _ _)
  have heq := eqH8 m.h hh
  have Hl1 := hid hl1
  have Hl2 := hid hl2
  clear hl1 hl2
  go_wp2_with (first | (refine wp_ldg 23 (.tmp 32) (by rfl) rfl rfl r1 Try.underlying23 rfl (by rw [len_bvs, hh]; exact size25) ?_) | (refine wp_ldg 23 (.tmp 34) (by rfl) rfl rfl r2 Try.underlying23 rfl (by rw [len_bvs, hh]; exact size25) ?_))
  refine (same_b _ _ m.b m.b _ _ _ h1 h3).mono ?_
  rintro e x3 ⟨rfl, hB3⟩
  rw [decide_eq_true rfl]
  have x1 := x1.below hB3
  have x2 := x2.below hB3
  have h2 := h2.below hB3
  have h4 := h4.below hB3
  have hB3' := hB2.trans (hB3.mono hB2.size)
  clear c0 c2 c3 c4 c37 c38 d0 d2 d3 d4 d37 d38 r1 r2
  have c38 := x1.cellAt 37 _ (by rw [Hl1.out]; exact vt_parts hh _ _)
  have d38 := x2.cellAt 37 _ (by rw [Hl2.out]; exact vt_parts hh _ _)
  go_wp2_with (fail)
  refine (sameParts_any _ _ m.ps _ _ _ h2 h4 hn).mono ?_
  rintro e x4 ⟨rfl, hB4⟩
  go_wp2
  go_ret
  exact ⟨rfl, hB3'.trans (hB4.mono hB3'.size)⟩
end Go.Proofs.Ytkoncjcnpconkaa
