/- Z4: layer 9: the law SealsOther. -/
import Derived.Test.YtacjijhpbeegbaaDoorZ2
namespace Go.V
open Go.RowKit
/-- m with sender 0 -/
def Mg.z (m : Mg) : Mg := { m with f := 0 }
theorem mz_l (m : Mg) (ub up : Value) : (m.l ub up).set 1 (.int .i64 0) = m.z.l ub up := rfl
theorem mz_in {m : Mg} (h : MgIn m) : MgIn m.z := ⟨h.k, by show -9223372036854775808 ≤ (0 : Int) ∧ (0 : Int) ≤ 9223372036854775807; omega, h.v, h.r, h.s, h.h⟩
theorem mz_lo (m : Mg) : longB m.z = longB m := rfl
end Go.V
namespace Go.Proofs.YtacjijhpbeegbaaDoor
open Go.RowKit Go.V
theorem errS_one {a : List UInt8} {m : Mg} (hf : m.f = 0) : errS [a] m = errG m := by
  unfold errS
  rw [hf]
  split
  · rw [if_neg (by simp)]; omega
  · rfl
theorem keyOf_one {a : List UInt8} {m : Mg} (hf : m.f = 0) : keyOf [a] m = a := by
  unfold keyOf
  rw [hf]
  rfl
set_option maxRecDepth 100000 in
set_option maxHeartbeats 4000000 in
theorem sealsOther_law (a b : List UInt8) (m : Mg) (va vb ub up : Value) (Fa Fb F1 F2 : Nat → Prop) (w : World) (hKS : KS w) (hm : MgIn m) (ha : Rd w Fa va (bys a)) (hb : Rd w Fb vb (bys b)) (hub : Rd w F1 ub (bys m.b)) (hup : Rd w F2 up (tx m.ps)) :
    Calls Tryd.prog 4 #[va, vb, m.val ub up] w fun e w' => e = .returned (.bool true) ∧ Below w.heap.size w w' := by
  have hh := hm.h
  have hk0 := hKS.lt
  have hlong := fun F1 F2 W h1 h2 => long8_any m ub up W hh F1 F2 h1 h2
  obtain ⟨Aa, ca, rfl⟩ := ha.shape
  obtain ⟨Ab, cb2, rfl⟩ := hb.shape
  obtain ⟨AB, cb, rfl⟩ := hub.shape
  obtain ⟨AP, cpp, rfl, _, _⟩ := hup.slShape
  have ha := ha.weak (F' := fun b => b < w.heap.size) (fun b h _ => h)
  have hb := hb.weak (F' := fun b => b < w.heap.size) (fun b h _ => h)
  have hub := hub.weak (F' := fun b => b < w.heap.size) (fun b h _ => h)
  have hup := hup.weak (F' := fun b => b < w.heap.size) (fun b h _ => h)
  unfold Mg.val at hlong ⊢
  have hmn := len_mg hh (.slice AB m.b.length cb) (.slice AP m.ps.length cpp)
  have hz := mz_l m (.slice AB m.b.length cb) (.slice AP m.ps.length cpp)
  obtain ⟨l, hl⟩ : ∃ l, l = m.l (.slice AB m.b.length cb) (.slice AP m.ps.length cpp) := ⟨_, rfl⟩
  rw [← hl] at hlong hmn hz ⊢
  have Hmn := hid hmn
  have Hz := hid hz
  clear hl hmn hz
  have hvb := Blk.new' w 27 l
  have hB : Below w.heap.size w (w.alloc (.cells l.toArray 27)) := (Below.refl _ _).alloc (Nat.le_refl _) _
  have ha := ha.below hB
  have hb := hb.below hB
  have hub := hub.below hB
  have hup := hup.below hB
  have hKS := hKS.below hB
  go_enter Tryd.func4, Tryd.ntmps4
  go_wp2_with (fail)
  refine (wakes9_any _ hKS).mono ?_
  rintro e w1 ⟨rfl, hB1⟩
  have hvb := hvb.below hB1
  have ha := ha.below hB1
  have hb := hb.below hB1
  have hub := hub.below hB1
  have hup := hup.below hB1
  have hKS := hKS.below hB1
  have hB := hB.trans (hB1.mono hB.size)
  obtain ⟨g, hg⟩ : ∃ g, g = w.heap.size := ⟨_, rfl⟩
  rw [← hg] at hvb ⊢
  have hgw : w.heap.size ≤ g := by omega
  clear hg hB1
  have Hlong := hid hlong
  clear hlong
  by_cases h1 : 200 < a.length
  · have h1I : (200 : Int) < (a.length : Int) := by omega
    go_wp2
    go_ret
    exact ⟨rfl, hB⟩
  have h1I : ¬ (200 : Int) < (a.length : Int) := by omega
  have h1d : decide ((200 : Int) < (a.length : Int)) = false := decide_eq_false h1I
  by_cases h2 : 200 < b.length
  · have h2I : (200 : Int) < (b.length : Int) := by omega
    go_wp2
    go_ret
    exact ⟨rfl, hB⟩
  have h2I : ¬ (200 : Int) < (b.length : Int) := by omega
  have h2d : decide ((200 : Int) < (b.length : Int)) = false := decide_eq_false h2I
  go_wp2_with (refine wp_ldg 27 (.tmp 5) (by rfl) rfl rfl hvb.whole Tryd.underlying27 rfl (by rw [Hmn.out]; exact sizeM) ?_)
  refine (Hlong.out _ _ _ hub hup).mono ?_
  rintro e w2 ⟨rfl, hB2⟩
  have hvb := hvb.below hB2
  have ha := ha.below hB2
  have hb := hb.below hB2
  have hub := hub.below hB2
  have hup := hup.below hB2
  have hKS := hKS.below hB2
  have hB := hB.trans (hB2.mono hB.size)
  clear hB2 Hlong h1I h2I h1d h2d
  cases hlg : longB m with
  | true =>
    go_wp2
    go_ret
    exact ⟨rfl, hB⟩
  | false =>
    have hin := mz_in hm
    have hlg : longB m.z = false := hlg
    have hmb : m.b = m.z.b := rfl
    have hmp : m.ps = m.z.ps := rfl
    have hf : m.z.f = 0 := rfl
    rw [hmb] at hub
    rw [hmp] at hup
    have hzl := Hz.out
    rw [hmb, hmp] at hzl
    obtain ⟨M, hM⟩ : ∃ M, M = m.z := ⟨_, rfl⟩
    rw [← hM] at hin hlg hf hub hup hzl
    have hMh := hin.h
    have hps : M.ps.length ≤ 1000000 := by have := (long_bd hlg).2.1; omega
    have hsm : MgSm M := by
      obtain ⟨h1, h2, h3⟩ := long_bd hlg
      exact ⟨by omega, by omega, fun t ht => by have := h3 t ht; omega⟩
    have hPl := len_by hMh hlg
    have hka : KsSm [a] := ⟨by simp, by intro k hk; simp at hk; subst hk; omega⟩
    have hkb : KsSm [b] := ⟨by simp, by intro k hk; simp at hk; subst hk; omega⟩
    have hsa : slS [a] M = Mg.by M ++ tagF a (Mg.by M) := by unfold slS; rw [keyOf_one hf]
    have hsb : slS [b] M = Mg.by M ++ tagF b (Mg.by M) := by unfold slS; rw [keyOf_one hf]
    have hea : errS [a] M = errG M := errS_one hf
    have heb : errS [b] M = errG M := errS_one hf
    have hop : errG M = 0 → opR [b] (slS [a] M) = if tagF b (Mg.by M) = tagF a (Mg.by M) then .ok M else .error 5 := fun h => by
      have := op_at (ks := [b]) (m := M) hMh (by rw [heb]; exact h) (tagF a (Mg.by M)) (len_tag _ _)
      rw [keyOf_one hf] at this
      rw [hsa]; exact this
    have hse := fun va (F F1 F2 : Nat → Prop) W h0 h h1 h2 => seal9_any [a] M va (.slice none 0 0) (.slice AB M.b.length cb) (.slice AP M.ps.length cpp) F F1 F2 W h0 hin hsm hka h h1 h2
    have hso := fun vb v (F G : Nat → Prop) W h0 h hv => open9_any [b] (slS [a] M) vb (.slice none 0 0) v F G W h0 hkb h hv (by rw [hsa, List.length_append, len_tag]; omega)
    have hrs := fun vb (F : Nat → Prop) W h h1 h2 => rseal_any [b] M vb (.slice none 0 0) (.slice AB M.b.length cb) (.slice AP M.ps.length cpp) F W hin hlg hkb h h1 h2
    have hsame := fun ub1 up1 F1 F2 F3 F4 W h1 h2 h3 h4 => same8_any M ub1 up1 (.slice AB M.b.length cb) (.slice AP M.ps.length cpp) F1 F2 F3 F4 W hMh h1 h2 h3 h4 hps
    rw [hea] at hse
    rw [heb] at hrs
    have htt : (slS [a] M = slS [b] M) ↔ (tagF b (Mg.by M) = tagF a (Mg.by M)) := by rw [hsa, hsb]; exact ⟨fun h => (List.append_cancel_left h).symm, fun h => by rw [h]⟩
    obtain ⟨E, hE⟩ : ∃ E, E = errG M := ⟨_, rfl⟩
    rw [← hE] at hse hrs hop
    obtain ⟨X, hX⟩ : ∃ X, X = slS [a] M := ⟨_, rfl⟩
    rw [← hX] at hse hso hop htt
    obtain ⟨Y, hY⟩ : ∃ Y, Y = slS [b] M := ⟨_, rfl⟩
    rw [← hY] at hrs htt
    obtain ⟨tg, htg⟩ : ∃ tg, tg = (tagF b (Mg.by M) = tagF a (Mg.by M)) := ⟨_, rfl⟩
    unfold Mg.val at hse hrs hsame
    have hl1 : ∀ A B n c k d, ∀ v ∈ M.l (.slice A n c) (.slice B k d), v.oneCell' = true := fun A B n c k d => one_mg
    have hln := fun u v => len_mg hMh u v
    obtain ⟨lz, hlz⟩ : ∃ lz, lz = M.l (.slice AB M.b.length cb) (.slice AP M.ps.length cpp) := ⟨_, rfl⟩
    rw [← hlz] at hse hrs hzl hsame
    have hlzn : lz.length = 39 := by rw [hlz]; exact hln _ _
    have Hse := hid hse
    have Hso := hid hso
    have Hrs := hid hrs
    have Hop := hid hop
    have Htt := hid htt
    have Hzl := hid hzl
    have Hlzn := hid hlzn
    have Hl1 := hid hl1
    have Hln := hid hln
    have Hsame := hid hsame
    clear hse hso hrs hop htt hzl hlzn hl1 hln hsame hlz hM hE hX hY htg hea heb hsa hsb hmb hmp hf hlg
    have hbKa := fun g => bld9K (some ⟨g, 0, none⟩) 1 1
    go_wp2_with (refine wp_st1 3 (.tmp 27) (.const (.int .i64 0)) rfl rfl rfl (f := 1) rfl (v := .int .i64 0) rfl hvb (by rw [Hmn.out]; omega) sizeI8 rfl rfl ?_; intro w3 hvb3 hG3; refine wp_stop ?_)
    rw [Hzl.out] at hvb3
    have hkg : ∀ q, q < w2.heap.size → q < w.heap.size → q < w.heap.size ∧ w3.heap[q]? = w2.heap[q]? := fun q hq h => ⟨h, hG3.block q hq (by intro e; injection e with e; omega)⟩
    have ha := ha.keep hkg
    have hb := hb.keep hkg
    have hub := hub.keep hkg
    have hup := hup.keep hkg
    have hB3 := hB.grown hG3 hB.size (by intro k hk; injection hk with hk; omega)
    have hKS : KS w3 := hKS.keep (hG3.block _ hKS.lt (by intro e; injection e with e; omega))
    have hvb := hvb3
    have hB := hB3
    clear hvb3 hB3 hkg hG3
    refine wp_go ?_
    go_wp2_with (refine wp_bsl slBB8 (.tmp 29) rfl rfl (u := .slice Aa a.length ca) rfl rfl ?_; intro w4 hx4 hB4; refine wp_stop ?_)
    have hka4 := tx_one (F := fun _ => True) hx4 trivial ((ha.below hB4).weak (F' := fun _ => True) (fun _ _ _ => trivial))
    have hvb := hvb.below hB4
    have hb := hb.below hB4
    have hub := hub.below hB4
    have hup := hup.below hB4
    have hKS := hKS.below hB4
    have hB := hB.trans (hB4.mono hB.size)
    obtain ⟨g4, hg4⟩ : ∃ g, g = w3.heap.size := ⟨_, rfl⟩
    rw [← hg4] at hka4 ⊢
    clear hg4 hB4 hx4 ha
    refine wp_go ?_
    go_wp2_with (first | refine wp_bld 33 [(0, .tmp 30)] rfl rfl [(0, .slice (some ⟨g4, 0, none⟩) 1 1)] rfl (bld9K _ _ _) ?_ | refine wp_ld 27 (.tmp 5) rfl rfl rfl hvb.whole Tryd.underlying27 rfl (by rw [Hlzn.out]; exact sizeM) ?_)
    refine (Hse.out _ _ _ _ _ hKS hka4 hub hup).mono ?_
    rintro e w5 ⟨v5, rfl, ho5, hB5⟩
    have hvb := hvb.below hB5
    have hb := hb.below hB5
    have hub := hub.below hB5
    have hup := hup.below hB5
    have hKS := hKS.below hB5
    have hB := hB.trans (hB5.mono hB.size)
    clear hB5 Hse hka4
    by_cases he : E = 0
    · subst he
      rw [if_pos rfl] at ho5
      obtain ⟨A5, c5, rfl⟩ := own_shape ho5
      have hr5 := Rd.of_own ho5
      have hop := Hop.out rfl
      clear ho5 Hop
      have hrd : Hid (∀ e w' W, ReadP W (opR [b] X) e w' → ∃ v, e = .returned (.tuple #[v, .int .i64 (if tagF b (Mg.by M) = tagF a (Mg.by M) then 0 else 5)]) ∧ (tagF b (Mg.by M) = tagF a (Mg.by M) → ∃ u1 u2, v = .agg (M.l u1 u2).toArray ∧ Rd w' (fun b => W.heap.size ≤ b) u1 (bys M.b) ∧ Rd w' (fun b => W.heap.size ≤ b) u2 (tx M.ps)) ∧ (¬ tagF b (Mg.by M) = tagF a (Mg.by M) → v = .agg zM.toArray) ∧ Below W.heap.size W w') := fun e w' W h => by
        rw [hop] at h
        by_cases hq : tagF b (Mg.by M) = tagF a (Mg.by M)
        · rw [if_pos hq] at h ⊢
          obtain ⟨⟨u1, u2, rfl, h1, h2⟩, hBW⟩ := h
          exact ⟨_, rfl, fun _ => ⟨u1, u2, rfl, h1, h2⟩, fun hn => absurd hq hn, hBW⟩
        · rw [if_neg hq] at h ⊢
          obtain ⟨rfl, hBW⟩ := h
          exact ⟨_, rfl, fun h => absurd h hq, fun _ => rfl, hBW⟩
      clear hop
      go_wp2_with (refine wp_bsl slBB8 (.tmp 42) rfl rfl (u := .slice Ab b.length cb2) rfl rfl ?_; intro w6 hx6 hB6; refine wp_stop ?_)
      have hkb6 := tx_one (F := fun _ => True) hx6 trivial ((hb.below hB6).weak (F' := fun _ => True) (fun _ _ _ => trivial))
      have hvb := hvb.below hB6
      have hb := hb.below hB6
      have hub := hub.below hB6
      have hup := hup.below hB6
      have hr5 := hr5.below hB6
      have hKS := hKS.below hB6
      have hB := hB.trans (hB6.mono hB.size)
      obtain ⟨g6, hg6⟩ : ∃ g, g = w5.heap.size := ⟨_, rfl⟩
      rw [← hg6] at hkb6 ⊢
      clear hg6 hB6 hx6
      refine wp_go ?_
      go_wp2_with (first | refine wp_bld 33 [(0, .tmp 43)] rfl rfl [(0, .slice (some ⟨g6, 0, none⟩) 1 1)] rfl (bld9K _ _ _) ?_)
      refine (Hso.out _ _ _ _ _ hKS hkb6 hr5).mono ?_
      rintro e w7 h7
      obtain ⟨v7, rfl, h7a, h7b, hB7⟩ := hrd.out _ _ _ h7
      have hvb := hvb.below hB7
      have hb := hb.below hB7
      have hub := hub.below hB7
      have hup := hup.below hB7
      have hr5 := hr5.below hB7
      have hB := hB.trans (hB7.mono hB.size)
      clear hB7 hkb6 Hso hrd h7
      by_cases hq : tagF b (Mg.by M) = tagF a (Mg.by M)
      · rw [if_pos hq]
        obtain ⟨u1, u2, rfl, hu1, hu2⟩ := h7a hq
        obtain ⟨A7, c7, rfl⟩ := hu1.shape
        obtain ⟨A8, c8, rfl, _, _⟩ := hu2.slShape
        have hXY : Hid (X = Y) := Htt.out.2 hq
        have hl7n := Hln.out (.slice A7 M.b.length c7) (.slice A8 M.ps.length c8)
        have hl7o := Hl1.out A7 A8 M.b.length c7 M.ps.length c8
        have hs7 := Hsame.out (.slice A7 M.b.length c7) (.slice A8 M.ps.length c8)
        obtain ⟨l7, hl7⟩ : ∃ l, l = M.l (.slice A7 M.b.length c7) (.slice A8 M.ps.length c8) := ⟨_, rfl⟩
        rw [← hl7] at hl7n hl7o hs7 ⊢
        have Hl7n := hid hl7n
        have Hl7o := hid hl7o
        have Hs7 := hid hs7
        clear hl7 hl7n hl7o hs7 h7a h7b hq Htt
        go_wp2_with (refine wp_newst 27 9 (.tmp 47) rfl rfl rfl rfl rfl rfl zeroM (l := l7) rfl (by rw [Hl7n.out]; exact len_zM) (by rw [Hl7n.out]; exact sizeM) Hl7o.out (by simp) ?_; intro w8 hx8 hB8 hs8; refine wp_stop ?_)
        have hvb := hvb.below hB8
        have hb := hb.below hB8
        have hub := hub.below hB8
        have hup := hup.below hB8
        have hu1 := hu1.below hB8
        have hu2 := hu2.below hB8
        have hr5 := hr5.below hB8
        have hB := hB.trans (hB8.mono hB.size)
        obtain ⟨g8, hg8⟩ : ∃ g, g = w7.heap.size := ⟨_, rfl⟩
        rw [← hg8] at hx8 ⊢
        clear hg8 hB8 hs8
        refine wp_go ?_
        go_wp2_with (refine wp_bsl slBB8 (.tmp 50) rfl rfl (u := .slice Ab b.length cb2) rfl rfl ?_; intro w9 hx9 hB9; refine wp_stop ?_)
        have hkb9 := tx_one (F := fun _ => True) hx9 trivial ((hb.below hB9).weak (F' := fun _ => True) (fun _ _ _ => trivial))
        have hvb := hvb.below hB9
        have hub := hub.below hB9
        have hup := hup.below hB9
        have hu1 := hu1.below hB9
        have hu2 := hu2.below hB9
        have hr5 := hr5.below hB9
        have hx8 := hx8.below hB9
        have hB := hB.trans (hB9.mono hB.size)
        obtain ⟨g9, hg9⟩ : ∃ g, g = w8.heap.size := ⟨_, rfl⟩
        rw [← hg9] at hkb9 ⊢
        clear hg9 hB9 hx9
        refine wp_go ?_
        go_wp2_with (first | refine wp_bld 33 [(0, .tmp 51)] rfl rfl [(0, .slice (some ⟨g9, 0, none⟩) 1 1)] rfl (bld9K _ _ _) ?_ | refine wp_ld 27 (.tmp 5) rfl rfl rfl hvb.whole Tryd.underlying27 rfl (by rw [Hlzn.out]; exact sizeM) ?_)
        refine (Hrs.out _ _ _ hkb9 (hub.weak (fun b hb _ => hb)) (hup.weak (fun b hb _ => hb))).mono ?_
        rintro e w10 ⟨v10, rfl, ho10, hB10⟩
        simp only [if_true] at ho10
        rw [← hXY.out] at ho10
        obtain ⟨A10, c10, rfl⟩ := own_shape ho10
        have hr10 := Rd.of_own ho10
        have hvb := hvb.below hB10
        have hub := hub.below hB10
        have hup := hup.below hB10
        have hu1 := hu1.below hB10
        have hu2 := hu2.below hB10
        have hr5 := hr5.below hB10
        have hx8 := hx8.below hB10
        have hB := hB.trans (hB10.mono hB.size)
        clear hB10 ho10 hkb9
        go_wp2_with (fail)
        refine (same_b _ _ X X _ _ _ hr5 hr10).mono ?_
        rintro e w11 ⟨rfl, hB11⟩
        rw [decide_eq_true rfl]
        have hvb := hvb.below hB11
        have hub := hub.below hB11
        have hup := hup.below hB11
        have hu1 := hu1.below hB11
        have hu2 := hu2.below hB11
        have hx8 := hx8.below hB11
        have hB := hB.trans (hB11.mono hB.size)
        clear hB11 hr10 hr5
        go_wp2_with (first | (refine wp_ldg 27 (.tmp 9) (by rfl) rfl rfl hx8.whole Tryd.underlying27 rfl (by rw [Hl7n.out]; exact sizeM) ?_) | (refine wp_ldg 27 (.tmp 5) (by rfl) rfl rfl hvb.whole Tryd.underlying27 rfl (by rw [Hlzn.out]; exact sizeM) ?_))
        refine (Hs7.out _ _ _ _ _ hu1 hu2 hub hup).mono ?_
        rintro e w12 ⟨rfl, hB12⟩
        go_wp2
        go_ret
        exact ⟨rfl, hB.trans (hB12.mono hB.size)⟩
      · rw [if_neg hq]
        obtain rfl := h7b hq
        have hXY : Hid (¬ X = Y) := fun h => hq (Htt.out.1 h)
        clear h7a h7b hq Htt
        go_wp2_with (refine wp_newst 27 9 (.tmp 47) rfl rfl rfl rfl rfl rfl zeroM (l := zM) rfl rfl (by rw [len_zM]; exact sizeM) one_zM8 (by simp) ?_; intro w8 hx8 hB8 hs8; refine wp_stop ?_)
        have hvb := hvb.below hB8
        have hb := hb.below hB8
        have hub := hub.below hB8
        have hup := hup.below hB8
        have hr5 := hr5.below hB8
        have hB := hB.trans (hB8.mono hB.size)
        obtain ⟨g8, hg8⟩ : ∃ g, g = w7.heap.size := ⟨_, rfl⟩
        rw [← hg8]
        clear hg8 hB8 hs8 hx8
        refine wp_go ?_
        go_wp2_with (refine wp_bsl slBB8 (.tmp 50) rfl rfl (u := .slice Ab b.length cb2) rfl rfl ?_; intro w9 hx9 hB9; refine wp_stop ?_)
        have hkb9 := tx_one (F := fun _ => True) hx9 trivial ((hb.below hB9).weak (F' := fun _ => True) (fun _ _ _ => trivial))
        have hvb := hvb.below hB9
        have hub := hub.below hB9
        have hup := hup.below hB9
        have hr5 := hr5.below hB9
        have hB := hB.trans (hB9.mono hB.size)
        obtain ⟨g9, hg9⟩ : ∃ g, g = w8.heap.size := ⟨_, rfl⟩
        rw [← hg9] at hkb9 ⊢
        clear hg9 hB9 hx9
        refine wp_go ?_
        go_wp2_with (first | refine wp_bld 33 [(0, .tmp 51)] rfl rfl [(0, .slice (some ⟨g9, 0, none⟩) 1 1)] rfl (bld9K _ _ _) ?_ | refine wp_ld 27 (.tmp 5) rfl rfl rfl hvb.whole Tryd.underlying27 rfl (by rw [Hlzn.out]; exact sizeM) ?_)
        refine (Hrs.out _ _ _ hkb9 (hub.weak (fun b hb _ => hb)) (hup.weak (fun b hb _ => hb))).mono ?_
        rintro e w10 ⟨v10, rfl, ho10, hB10⟩
        simp only [if_true] at ho10
        obtain ⟨A10, c10, rfl⟩ := own_shape ho10
        have hr10 := Rd.of_own ho10
        have hr5 := hr5.below hB10
        have hB := hB.trans (hB10.mono hB.size)
        clear hB10 ho10 hkb9
        go_wp2_with (fail)
        refine (same_b _ _ X Y _ _ _ hr5 hr10).mono ?_
        rintro e w11 ⟨rfl, hB11⟩
        rw [decide_eq_false hXY.out]
        have hB := hB.trans (hB11.mono hB.size)
        clear hB11 hr10 hr5
        go_wp2
        go_ret
        exact ⟨rfl, hB⟩
    · have hne : ((E : Int) != 0) = true := by rw [bne_iff_ne]; omega
      rw [if_neg he] at ho5
      obtain ⟨A5, c5, rfl⟩ := own_shape ho5
      go_wp2
      go_ret
      exact ⟨rfl, hB⟩
end Go.Proofs.YtacjijhpbeegbaaDoor
