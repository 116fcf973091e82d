/- Y1: layer 8: contract of the document's Bytes. -/
import Derived.Test.YthejallmkcohpaaY0
import Derived.Test.YthejallmkcohpaaRB
namespace Go.Proofs.Ythejallmkcohpaa
open Go.RowKit Go.V
set_option maxRecDepth 100000 in
set_option maxHeartbeats 4000000 in
theorem rby8_any (m : Mg) (ub up : Value) (w : World) (hh : m.h.length = 32) (hlo : longB m = false) (hub : Rd w (fun b => b < w.heap.size) ub (bys m.b)) (hup : Rd w (fun b => b < w.heap.size) up (tx m.ps)) :
    Calls Try.prog 15 #[m.val ub up] w fun e w' => ∃ v', e = .returned v' ∧ NewB w w' v' (Mg.by m) := by
  obtain ⟨hb3, hp20, hpl⟩ := long_bd hlo
  obtain ⟨AB, cb, rfl⟩ := hub.shape
  obtain ⟨AP, cpp, rfl, _, _⟩ := hup.slShape
  unfold Mg.val
  have hvb := Blk.new' w 27 (m.l (.slice AB m.b.length cb) (.slice AP m.ps.length cpp))
  have hB : Below w.heap.size w (w.alloc (.cells (m.l (.slice AB m.b.length cb) (.slice AP m.ps.length cpp)).toArray 27)) := (Below.refl _ _).alloc (Nat.le_refl _) _
  have hub := hub.below hB
  have hup := hup.below hB
  clear hlo
  have c0 := hvb.cellAt 0 _ rfl
  have hw0 := un_wrap m.k
  go_enter Try.func15, Try.ntmps15
  go_wp2_with (fail)
  obtain ⟨w0, hw1⟩ : ∃ x, x = w.alloc (.cells (m.l (.slice AB m.b.length cb) (.slice AP m.ps.length cpp)).toArray 27) := ⟨_, rfl⟩
  rw [← hw1] at hvb hB hub hup c0 ⊢
  clear hw1
  obtain ⟨g, hg⟩ : ∃ g, g = w.heap.size := ⟨_, rfl⟩
  rw [← hg] at hvb c0 ⊢
  clear hg
  refine (refx_any (un m.k) 1 _ (un_lt _)).mono ?_
  rintro e x0 ⟨v0, rfl, ho0, hB0⟩
  have hvb := hvb.below hB0
  have hub := hub.below hB0
  have hup := hup.below hB0
  have hB := hB.trans (hB0.mono hB.size)
  obtain ⟨q0, hq0⟩ : ∃ q, q = fixR 1 (un m.k) := ⟨_, rfl⟩
  have hl0 : q0.length ≤ 3010 := by rw [hq0]; rw [len_fixR1 _]; omega
  rw [← hq0] at ho0
  have Hq0 := hid hq0
  clear hq0 c0 hw0
  obtain ⟨A0, k0, rfl⟩ := own_shape ho0
  go_wp2_with (refine wp_app (.tmp 5) (.tmp 9) slB rfl rfl rfl (World.ownsRow_nil _ w.heap.size _ _) rfl (Rd.of_own ho0).src (oneCell_bvs _) (by simp only [maxLen]; omega) (by omega) hB.size ?_; intro y0 z0 hro2 hG0 _; refine wp_stop ?_)
  have hG0 : x0.grownBy z0 none := hG0
  have hro2 : z0.ownsRow w.heap.size 5 1 y0 q0.length (bvs q0) := by simpa using hro2
  have hvb := hvb.keep (hG0.block _ hvb.lt (by simp))
  have hB := hB.grown hG0 hB.size (fun b h => by cases h)
  have hub := hub.keep (fun b hb hF => ⟨hF, hG0.block _ hb (by simp)⟩)
  have hup := hup.keep (fun b hb hF => ⟨hF, hG0.block _ hb (by simp)⟩)
  obtain ⟨P0, hP0, hro⟩ : ∃ P, P = q0 ∧ z0.ownsRow w.heap.size 5 1 y0 P.length (bvs P) := ⟨_, rfl, hro2⟩
  have hm0 : P0.length ≤ 3010 := by rw [hP0]; omega
  have HP0 := hid hP0
  clear hP0 hro2 ho0 hB0 hG0
  refine wp_go ?_
  have c0 := hvb.cellAt 1 _ rfl
  have hw0 := un_wrap m.f
  go_wp2_with (fail)
  refine (refx_any (un m.f) 1 _ (un_lt _)).mono ?_
  rintro e x1 ⟨v1, rfl, ho1, hB1⟩
  have hvb := hvb.below hB1
  have hub := hub.below hB1
  have hup := hup.below hB1
  have hB := hB.trans (hB1.mono hB.size)
  have hro := own_bel hro hB1
  obtain ⟨q1, hq1⟩ : ∃ q, q = fixR 1 (un m.f) := ⟨_, rfl⟩
  have hl1 : q1.length ≤ 3010 := by rw [hq1]; rw [len_fixR1 _]; omega
  rw [← hq1] at ho1
  have Hq1 := hid hq1
  clear hq1 c0 hw0
  obtain ⟨A1, k1, rfl⟩ := own_shape ho1
  go_wp2_with (refine wp_app (.tmp 11) (.tmp 15) slB rfl rfl rfl hro rfl (Rd.of_own ho1).src (oneCell_bvs _) (by simp only [maxLen]; omega) (by omega) hB.size ?_; intro y1 z1 hro2 hG1 _; refine wp_stop ?_)
  have hvb := hvb.keep (hG1.block _ hvb.lt (blk_row hvb hro (by decide)))
  have hub := hub.keep (fun b hb hF => ⟨hF, hG1.block _ hb (fun h => by have := (hro.lt b h.symm).1; have h2 : b < w.heap.size := hF; omega)⟩)
  have hup := hup.keep (fun b hb hF => ⟨hF, hG1.block _ hb (fun h => by have := (hro.lt b h.symm).1; have h2 : b < w.heap.size := hF; omega)⟩)
  have hB := hB.grown hG1 hB.size (fun k hk => (hro.lt k hk).1)
  obtain ⟨P1, hP1, hro⟩ : ∃ P, P = P0 ++ q1 ∧ z1.ownsRow w.heap.size 5 1 y1 P.length (bvs P) := ⟨_, rfl, own_join hro2⟩
  have hm1 : P1.length ≤ 6020 := by rw [hP1]; rw [List.length_append]; omega
  have HP1 := hid hP1
  clear hP1 hro2 ho1 hB1 hG1
  refine wp_go ?_
  have c0 := hvb.cellAt 2 _ rfl
  have hw0 := un_wrap m.v
  go_wp2_with (fail)
  refine (refx_any (un m.v) 2 _ (un_lt _)).mono ?_
  rintro e x2 ⟨v2, rfl, ho2, hB2⟩
  have hvb := hvb.below hB2
  have hub := hub.below hB2
  have hup := hup.below hB2
  have hB := hB.trans (hB2.mono hB.size)
  have hro := own_bel hro hB2
  obtain ⟨q2, hq2⟩ : ∃ q, q = fixR 2 (un m.v) := ⟨_, rfl⟩
  have hl2 : q2.length ≤ 3010 := by rw [hq2]; rw [len_fixR2 _]; omega
  rw [← hq2] at ho2
  have Hq2 := hid hq2
  clear hq2 c0 hw0
  obtain ⟨A2, k2, rfl⟩ := own_shape ho2
  go_wp2_with (refine wp_app (.tmp 17) (.tmp 21) slB rfl rfl rfl hro rfl (Rd.of_own ho2).src (oneCell_bvs _) (by simp only [maxLen]; omega) (by omega) hB.size ?_; intro y2 z2 hro2 hG2 _; refine wp_stop ?_)
  have hvb := hvb.keep (hG2.block _ hvb.lt (blk_row hvb hro (by decide)))
  have hub := hub.keep (fun b hb hF => ⟨hF, hG2.block _ hb (fun h => by have := (hro.lt b h.symm).1; have h2 : b < w.heap.size := hF; omega)⟩)
  have hup := hup.keep (fun b hb hF => ⟨hF, hG2.block _ hb (fun h => by have := (hro.lt b h.symm).1; have h2 : b < w.heap.size := hF; omega)⟩)
  have hB := hB.grown hG2 hB.size (fun k hk => (hro.lt k hk).1)
  obtain ⟨P2, hP2, hro⟩ : ∃ P, P = P1 ++ q2 ∧ z2.ownsRow w.heap.size 5 1 y2 P.length (bvs P) := ⟨_, rfl, own_join hro2⟩
  have hm2 : P2.length ≤ 9030 := by rw [hP2]; rw [List.length_append]; omega
  have HP2 := hid hP2
  clear hP2 hro2 ho2 hB2 hG2
  refine wp_go ?_
  have c0 := hvb.cellAt 3 _ rfl
  have hw0 := un_wrap m.r
  go_wp2_with (fail)
  refine (refx_any (un m.r) 2 _ (un_lt _)).mono ?_
  rintro e x3 ⟨v3, rfl, ho3, hB3⟩
  have hvb := hvb.below hB3
  have hub := hub.below hB3
  have hup := hup.below hB3
  have hB := hB.trans (hB3.mono hB.size)
  have hro := own_bel hro hB3
  obtain ⟨q3, hq3⟩ : ∃ q, q = fixR 2 (un m.r) := ⟨_, rfl⟩
  have hl3 : q3.length ≤ 3010 := by rw [hq3]; rw [len_fixR2 _]; omega
  rw [← hq3] at ho3
  have Hq3 := hid hq3
  clear hq3 c0 hw0
  obtain ⟨A3, k3, rfl⟩ := own_shape ho3
  go_wp2_with (refine wp_app (.tmp 23) (.tmp 27) slB rfl rfl rfl hro rfl (Rd.of_own ho3).src (oneCell_bvs _) (by simp only [maxLen]; omega) (by omega) hB.size ?_; intro y3 z3 hro2 hG3 _; refine wp_stop ?_)
  have hvb := hvb.keep (hG3.block _ hvb.lt (blk_row hvb hro (by decide)))
  have hub := hub.keep (fun b hb hF => ⟨hF, hG3.block _ hb (fun h => by have := (hro.lt b h.symm).1; have h2 : b < w.heap.size := hF; omega)⟩)
  have hup := hup.keep (fun b hb hF => ⟨hF, hG3.block _ hb (fun h => by have := (hro.lt b h.symm).1; have h2 : b < w.heap.size := hF; omega)⟩)
  have hB := hB.grown hG3 hB.size (fun k hk => (hro.lt k hk).1)
  obtain ⟨P3, hP3, hro⟩ : ∃ P, P = P2 ++ q3 ∧ z3.ownsRow w.heap.size 5 1 y3 P.length (bvs P) := ⟨_, rfl, own_join hro2⟩
  have hm3 : P3.length ≤ 12040 := by rw [hP3]; rw [List.length_append]; omega
  have HP3 := hid hP3
  clear hP3 hro2 ho3 hB3 hG3
  refine wp_go ?_
  have c0 := hvb.cellAt 4 _ rfl
  have hw0 := un_wrap m.s
  go_wp2_with (fail)
  refine (refx_any (un m.s) 2 _ (un_lt _)).mono ?_
  rintro e x4 ⟨v4, rfl, ho4, hB4⟩
  have hvb := hvb.below hB4
  have hub := hub.below hB4
  have hup := hup.below hB4
  have hB := hB.trans (hB4.mono hB.size)
  have hro := own_bel hro hB4
  obtain ⟨q4, hq4⟩ : ∃ q, q = fixR 2 (un m.s) := ⟨_, rfl⟩
  have hl4 : q4.length ≤ 3010 := by rw [hq4]; rw [len_fixR2 _]; omega
  rw [← hq4] at ho4
  have Hq4 := hid hq4
  clear hq4 c0 hw0
  obtain ⟨A4, k4, rfl⟩ := own_shape ho4
  go_wp2_with (refine wp_app (.tmp 29) (.tmp 33) slB rfl rfl rfl hro rfl (Rd.of_own ho4).src (oneCell_bvs _) (by simp only [maxLen]; omega) (by omega) hB.size ?_; intro y4 z4 hro2 hG4 _; refine wp_stop ?_)
  have hvb := hvb.keep (hG4.block _ hvb.lt (blk_row hvb hro (by decide)))
  have hub := hub.keep (fun b hb hF => ⟨hF, hG4.block _ hb (fun h => by have := (hro.lt b h.symm).1; have h2 : b < w.heap.size := hF; omega)⟩)
  have hup := hup.keep (fun b hb hF => ⟨hF, hG4.block _ hb (fun h => by have := (hro.lt b h.symm).1; have h2 : b < w.heap.size := hF; omega)⟩)
  have hB := hB.grown hG4 hB.size (fun k hk => (hro.lt k hk).1)
  obtain ⟨P4, hP4, hro⟩ : ∃ P, P = P3 ++ q4 ∧ z4.ownsRow w.heap.size 5 1 y4 P.length (bvs P) := ⟨_, rfl, own_join hro2⟩
  have hm4 : P4.length ≤ 15050 := by rw [hP4]; rw [List.length_append]; omega
  have HP4 := hid hP4
  clear hP4 hro2 ho4 hB4 hG4
  refine wp_go ?_
  go_wp2_with (refine wp_ld 23 (.tmp 36) rfl rfl rfl (hvb.range 5 _ (mg_hash hh _ _)) Try.underlying23 rfl (by rw [len_bvs, hh]; exact size25) ?_)
  refine (rbytes_any m.h _ hh).mono ?_
  rintro e x5 ⟨v5, rfl, ho5, hB5⟩
  have hvb := hvb.below hB5
  have hub := hub.below hB5
  have hup := hup.below hB5
  have hB := hB.trans (hB5.mono hB.size)
  have hro := own_bel hro hB5
  obtain ⟨q5, hq5⟩ : ∃ q, q = m.h := ⟨_, rfl⟩
  have hl5 : q5.length ≤ 3010 := by rw [hq5]; rw [hh]; omega
  rw [← hq5] at ho5
  have Hq5 := hid hq5
  clear hq5
  obtain ⟨A5, k5, rfl⟩ := own_shape ho5
  go_wp2_with (refine wp_app (.tmp 35) (.tmp 38) slB rfl rfl rfl hro rfl (Rd.of_own ho5).src (oneCell_bvs _) (by simp only [maxLen]; omega) (by omega) hB.size ?_; intro y5 z5 hro2 hG5 _; refine wp_stop ?_)
  have hvb := hvb.keep (hG5.block _ hvb.lt (blk_row hvb hro (by decide)))
  have hub := hub.keep (fun b hb hF => ⟨hF, hG5.block _ hb (fun h => by have := (hro.lt b h.symm).1; have h2 : b < w.heap.size := hF; omega)⟩)
  have hup := hup.keep (fun b hb hF => ⟨hF, hG5.block _ hb (fun h => by have := (hro.lt b h.symm).1; have h2 : b < w.heap.size := hF; omega)⟩)
  have hB := hB.grown hG5 hB.size (fun k hk => (hro.lt k hk).1)
  obtain ⟨P5, hP5, hro⟩ : ∃ P, P = P4 ++ q5 ∧ z5.ownsRow w.heap.size 5 1 y5 P.length (bvs P) := ⟨_, rfl, own_join hro2⟩
  have hm5 : P5.length ≤ 18060 := by rw [hP5]; rw [List.length_append]; omega
  have HP5 := hid hP5
  clear hP5 hro2 ho5 hB5 hG5
  refine wp_go ?_
  have c0 := hvb.cellAt 37 _ (mg_body hh _ _)
  go_wp2_with (fail)
  refine (reft_any _ m.b _ _ hub (by omega)).mono ?_
  rintro e x6 ⟨v6, rfl, ho6, hB6⟩
  have hvb := hvb.below hB6
  have hub := hub.below hB6
  have hup := hup.below hB6
  have hB := hB.trans (hB6.mono hB.size)
  have hro := own_bel hro hB6
  obtain ⟨q6, hq6⟩ : ∃ q, q = packed m.b.length ++ m.b := ⟨_, rfl⟩
  have hl6 : q6.length ≤ 3010 := by rw [hq6]; rw [List.length_append, length_packed]; have := psz_bd m.b.length; omega
  rw [← hq6] at ho6
  have Hq6 := hid hq6
  clear hq6 c0
  obtain ⟨A6, k6, rfl⟩ := own_shape ho6
  go_wp2_with (refine wp_app (.tmp 40) (.tmp 43) slB rfl rfl rfl hro rfl (Rd.of_own ho6).src (oneCell_bvs _) (by simp only [maxLen]; omega) (by omega) hB.size ?_; intro y6 z6 hro2 hG6 _; refine wp_stop ?_)
  have hvb := hvb.keep (hG6.block _ hvb.lt (blk_row hvb hro (by decide)))
  have hub := hub.keep (fun b hb hF => ⟨hF, hG6.block _ hb (fun h => by have := (hro.lt b h.symm).1; have h2 : b < w.heap.size := hF; omega)⟩)
  have hup := hup.keep (fun b hb hF => ⟨hF, hG6.block _ hb (fun h => by have := (hro.lt b h.symm).1; have h2 : b < w.heap.size := hF; omega)⟩)
  have hB := hB.grown hG6 hB.size (fun k hk => (hro.lt k hk).1)
  obtain ⟨P6, hP6, hro⟩ : ∃ P, P = P5 ++ q6 ∧ z6.ownsRow w.heap.size 5 1 y6 P.length (bvs P) := ⟨_, rfl, own_join hro2⟩
  have hm6 : P6.length ≤ 21070 := by rw [hP6]; rw [List.length_append]; omega
  have HP6 := hid hP6
  clear hP6 hro2 ho6 hB6 hG6
  refine wp_go ?_
  have c0 := hvb.cellAt 38 _ (mg_parts hh _ _)
  have hw0 : IntKind.u64.wrap (m.ps.length : Int) = (m.ps.length : Int) := by rw [IntKind.wrap_u64]; omega
  go_wp2_with (fail)
  refine (refp_any m.ps.length _ (by omega)).mono ?_
  rintro e x7 ⟨v7, rfl, ho7, hB7⟩
  have hvb := hvb.below hB7
  have hub := hub.below hB7
  have hup := hup.below hB7
  have hB := hB.trans (hB7.mono hB.size)
  have hro := own_bel hro hB7
  obtain ⟨q7, hq7⟩ : ∃ q, q = packed m.ps.length := ⟨_, rfl⟩
  have hl7 : q7.length ≤ 3010 := by rw [hq7]; rw [length_packed]; have := psz_bd m.ps.length; omega
  rw [← hq7] at ho7
  have Hq7 := hid hq7
  clear hq7 c0 hw0
  obtain ⟨A7, k7, rfl⟩ := own_shape ho7
  go_wp2_with (refine wp_app (.tmp 45) (.tmp 50) slB rfl rfl rfl hro rfl (Rd.of_own ho7).src (oneCell_bvs _) (by simp only [maxLen]; omega) (by omega) hB.size ?_; intro y7 z7 hro2 hG7 _; refine wp_stop ?_)
  have hvb := hvb.keep (hG7.block _ hvb.lt (blk_row hvb hro (by decide)))
  have hub := hub.keep (fun b hb hF => ⟨hF, hG7.block _ hb (fun h => by have := (hro.lt b h.symm).1; have h2 : b < w.heap.size := hF; omega)⟩)
  have hup := hup.keep (fun b hb hF => ⟨hF, hG7.block _ hb (fun h => by have := (hro.lt b h.symm).1; have h2 : b < w.heap.size := hF; omega)⟩)
  have hB := hB.grown hG7 hB.size (fun k hk => (hro.lt k hk).1)
  obtain ⟨P7, hP7, hro⟩ : ∃ P, P = P6 ++ q7 ∧ z7.ownsRow w.heap.size 5 1 y7 P.length (bvs P) := ⟨_, rfl, own_join hro2⟩
  have hm7 : P7.length ≤ 24080 := by rw [hP7]; rw [List.length_append]; omega
  have HP7 := hid hP7
  clear hP7 hro2 ho7 hB7 hG7
  refine wp_go ?_
  go_wp2
  have HPS : Hid (P7 = ((Mg.hd m) ++ (packed m.b.length ++ m.b)) ++ packed m.ps.length) := by
    show _ = _
    rw [HP7.out, HP6.out, HP5.out, HP4.out, HP3.out, HP2.out, HP1.out, HP0.out, Hq0.out, Hq1.out, Hq2.out, Hq3.out, Hq4.out, Hq5.out, Hq6.out, Hq7.out]
    rfl
  clear Hq0 Hq1 Hq2 Hq3 Hq4 Hq5 Hq6 Hq7 HP0 HP1 HP2 HP3 HP4 HP5 HP6 HP7
  go_loopw [3, 4] (fun bv iv wr => ∃ i : Nat, i ≤ m.ps.length ∧ iv = .int .i64 i ∧ wr.ownsRow w.heap.size 5 1 bv (P7 ++ (m.ps.take i).flatMap tb1).length (bvs (P7 ++ (m.ps.take i).flatMap tb1)) ∧ Blk wr g 27 (m.l (.slice AB m.b.length cb) (.slice AP m.ps.length cpp)) ∧ Rd wr (fun b => b < w.heap.size) (.slice AP m.ps.length cpp) (tx m.ps) ∧ Below w.heap.size w wr) (fun _ i _ => m.ps.length - (intOf i).toNat)
  case atStart => exact ⟨0, Nat.zero_le _, rfl, by rw [List.take_zero, List.flatMap_nil, List.append_nil]; exact hro, hvb, hup, hB⟩
  case round =>
    clear hro hvb hup hB hub
    obtain ⟨i, hi, rfl, hro, hvb, hup, hB⟩ := hrel
    have c0 := hvb.cellAt 38 _ (mg_parts hh _ _)
    by_cases hlt : i < m.ps.length
    · obtain ⟨t, ht⟩ : ∃ t, m.ps[i]? = some t := ⟨_, List.getElem?_eq_getElem hlt⟩
      have hI : (i : Int) < (m.ps.length : Int) := by omega
      obtain ⟨G, off, u, rfl, hG, hcu, hu⟩ := Rd.elem hup i (bys t) (by rw [List.getElem?_map, ht]; rfl)
      obtain ⟨A1, c1, rfl⟩ := hu.shape
      have htl := hpl t (List.mem_of_getElem? ht)
      have hlf := len_parts (m.ps.take i) (fun x hx => hpl x (List.mem_of_mem_take hx))
      have Htk := hid (take_snocT ht)
      obtain ⟨P, hP, hro⟩ : ∃ P, P = P7 ++ (m.ps.take i).flatMap tb1 ∧ wr.ownsRow w.heap.size 5 1 _ P.length (bvs P) := ⟨_, rfl, hro⟩
      have hPl : P.length ≤ 100000 := by rw [hP, List.length_append]; rw [List.length_take] at hlf; omega
      have HP := hid hP
      clear hP ht hlf
      go_wp2_with (fail)
      refine (reft_any _ t _ _ hu (by omega)).mono ?_
      rintro e x9 ⟨v9, rfl, ho9, hB9⟩
      obtain ⟨q, hq⟩ : ∃ q, q = packed t.length ++ t := ⟨_, rfl⟩
      have hql : q.length ≤ 3010 := by rw [hq, List.length_append, length_packed]; have := psz_bd t.length; omega
      rw [← hq] at ho9
      have Hq := hid hq
      clear hq
      have hvb := hvb.below hB9
      have hup := hup.below hB9
      have hB := hB.trans (hB9.mono hB.size)
      have hro := own_bel hro hB9
      obtain ⟨A9, k9, rfl⟩ := own_shape ho9
      clear c0 hcu hu
      go_wp2_with (refine wp_app (.tmp 59) (.tmp 65) slB rfl rfl rfl hro rfl (Rd.of_own ho9).src (oneCell_bvs _) (by simp only [maxLen]; omega) (by omega) hB.size ?_; intro y9 z9 hro2 hG9 _; refine wp_stop ?_)
      have hvb := hvb.keep (hG9.block _ hvb.lt (blk_row hvb hro (by decide)))
      have hup := hup.keep (fun b hb hF => ⟨hF, hG9.block _ hb (fun h => by have := (hro.lt b h.symm).1; have h2 : b < w.heap.size := hF; omega)⟩)
      have hB := hB.grown hG9 hB.size (fun k hk => (hro.lt k hk).1)
      have hro2 := own_join hro2
      clear hro ho9 hB9 hG9
      refine wp_go ?_
      go_wp2
      go_roundw
      case rel =>
        refine ⟨i + 1, by omega, by go_num, ?_, hvb, hup, hB⟩
        rw [Htk.out, List.flatMap_append, List.flatMap_singleton, ← List.append_assoc, ← HP.out]
        rw [show tb1 t = q from Hq.out.symm]
        exact hro2
      case measure => simp [intOf]; omega
    · have hi' : i = m.ps.length := by omega
      subst hi'
      have hI : ¬ (m.ps.length : Int) < (m.ps.length : Int) := by omega
      rw [List.take_length] at hro
      have hby : Mg.by m = P7 ++ m.ps.flatMap tb1 := by
        rw [HPS.out]; rfl
      have Hby := hid hby
      clear hby
      go_wp2
      go_ret
      exact ⟨_, rfl, by rw [Hby.out]; exact ⟨hro, hB⟩⟩
end Go.Proofs.Ythejallmkcohpaa
