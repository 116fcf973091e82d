/- Y6: layer 8: the law WirePuts. -/
import Derived.Test.YthejallmkcohpaaY5
import Derived.Test.YthejallmkcohpaaVA
namespace Go.Proofs.Ythejallmkcohpaa
open Go.RowKit Go.V
set_option maxRecDepth 100000 in
set_option maxHeartbeats 4000000 in
theorem wirePuts_law (m : Mg) (ub up : Value) (F1 F2 : Nat → Prop) (w : World) (hm : MgIn m) (hub : Rd w F1 ub (bys m.b)) (hup : Rd w F2 up (tx m.ps)) :
    Calls Try.prog 3 #[m.val ub up] w fun e w' => e = .returned (.bool true) ∧ Below w.heap.size w w' := by
  have hh := hm.h
  have hlong := fun F1 F2 W h1 h2 => long8_any m ub up W hh F1 F2 h1 h2
  have hcop := fun hlo F1 F2 W h1 h2 => copied8_any m ub up F1 F2 W hh hlo h1 h2
  have hput := fun hlo ub up F1 F2 W h1 h2 => put8_any m ub up F1 F2 W hm hlo h1 h2
  have hrput := fun hlo W h1 h2 => rput8_any m ub up W hh hlo h1 h2
  have hsame := fun ub1 up1 F1 F2 F3 F4 W hn h1 h2 h3 h4 => same8_any m ub1 up1 ub up F1 F2 F3 F4 W hh h1 h2 h3 h4 hn
  have hget := fun hlo he v F W h => get8_any m v F W hm hlo he h
  have hlb : longB m = false → m.ps.length ≤ 1000000 ∧ (Mg.by m).length ≤ 63260 := fun h => ⟨by have := (long_bd h).2.1; omega, len_by hh h⟩
  obtain ⟨er, her⟩ : ∃ er, er = errM m := ⟨_, rfl⟩
  rw [← her] at hput hrput hget
  obtain ⟨lg, hlg⟩ : ∃ lg, lg = longB m := ⟨_, rfl⟩
  rw [← hlg] at hlong hcop hput hrput hget hlb
  clear her hlg
  obtain ⟨P, hP⟩ : ∃ P, P = Mg.by m := ⟨_, rfl⟩
  rw [← hP] at hput hrput hget hlb
  clear hP
  obtain ⟨AB, cb, rfl⟩ := hub.shape
  obtain ⟨AP, cpp, rfl, _, _⟩ := hup.slShape
  have hub := hub.weak (F' := fun b => b < w.heap.size) (fun b h _ => h)
  have hup := hup.weak (F' := fun b => b < w.heap.size) (fun b h _ => h)
  unfold Mg.val at hlong hcop hput hrput hsame hget ⊢
  have hmn := len_mg hh (.slice AB m.b.length cb) (.slice AP m.ps.length cpp)
  obtain ⟨l, hl⟩ : ∃ l, l = m.l (.slice AB m.b.length cb) (.slice AP m.ps.length cpp) := ⟨_, rfl⟩
  rw [← hl] at hlong hcop hrput hsame hmn ⊢
  have Hmn := hid hmn
  clear hl hmn
  have hvb := Blk.new' w 27 l
  have hB : Below w.heap.size w (w.alloc (.cells l.toArray 27)) := (Below.refl _ _).alloc (Nat.le_refl _) _
  have hub := hub.below hB
  have hup := hup.below hB
  go_enter Try.func3, Try.ntmps3
  go_wp2_with (fail)
  refine (wakes8_any _).mono ?_
  rintro e w1 ⟨rfl, hB1⟩
  have hvb := hvb.below hB1
  have hub := hub.below hB1
  have hup := hup.below hB1
  have hB := hB.trans (hB1.mono hB.size)
  obtain ⟨g, hg⟩ : ∃ g, g = w.heap.size := ⟨_, rfl⟩
  rw [← hg] at hvb ⊢
  clear hg hB1
  have Hlong := hid hlong
  have Hcop := hid hcop
  have Hput := hid hput
  have Hrput := hid hrput
  have Hsame := hid hsame
  have Hget := hid hget
  have Hlb := hid hlb
  clear hlong hcop hput hrput hsame hget hlb
  go_wp2_with (refine wp_ld 27 (.tmp 1) rfl rfl rfl hvb.whole Try.underlying27 rfl (by rw [Hmn.out]; exact sizeM) ?_)
  refine (Hlong.out _ _ _ hub hup).mono ?_
  rintro e w2 ⟨rfl, hB2⟩
  have hvb := hvb.below hB2
  have hub := hub.below hB2
  have hup := hup.below hB2
  have hB := hB.trans (hB2.mono hB.size)
  clear hB2
  cases lg with
  | true =>
    go_wp2
    go_ret
    exact ⟨rfl, hB⟩
  | false =>
    obtain ⟨hps, hPl⟩ := Hlb.out rfl
    go_wp2_with (refine wp_ld 27 (.tmp 1) rfl rfl rfl hvb.whole Try.underlying27 rfl (by rw [Hmn.out]; exact sizeM) ?_)
    refine (Hcop.out (by first | rfl | trivial) _ _ _ hub hup).mono ?_
    rintro e w3 ⟨ub', up', rfl, hub', hup', hB3⟩
    obtain ⟨A3, c3, rfl⟩ := hub'.shape
    obtain ⟨A4, c4, rfl, _, _⟩ := hup'.slShape
    have hvb := hvb.below hB3
    have hub := hub.below hB3
    have hup := hup.below hB3
    have hB := hB.trans (hB3.mono hB.size)
    have hm3 := len_mg hh (.slice A3 m.b.length c3) (.slice A4 m.ps.length c4)
    have h13 : ∀ v ∈ m.l (.slice A3 m.b.length c3) (.slice A4 m.ps.length c4), v.oneCell' = true := one_mg
    have hput := Hput.out (by first | rfl | trivial) (.slice A3 m.b.length c3) (.slice A4 m.ps.length c4)
    have hsa := Hsame.out (.slice A3 m.b.length c3) (.slice A4 m.ps.length c4)
    obtain ⟨l3, hl3⟩ : ∃ l, l = m.l (.slice A3 m.b.length c3) (.slice A4 m.ps.length c4) := ⟨_, rfl⟩
    rw [← hl3] at hm3 h13 hput hsa ⊢
    have Hm3 := hid hm3
    have H13 := hid h13
    have Hp3 := hid hput
    have Hs3 := hid hsa
    clear hB3 hl3 hm3 h13 hput hsa
    go_wp2_with (refine wp_newst 27 3 (.tmp 15) rfl rfl rfl rfl rfl rfl zeroM (l := l3) rfl (by rw [Hm3.out]; exact len_zM) (by rw [Hm3.out]; exact sizeM) H13.out (by simp) ?_; intro w4 hx4 hB4 hs4; refine wp_stop ?_)
    have hvb := hvb.below hB4
    have hub := hub.below hB4
    have hup := hup.below hB4
    have hub' := hub'.below hB4
    have hup' := hup'.below hB4
    have hB := hB.trans (hB4.mono hB.size)
    clear hB4 hs4
    obtain ⟨gx, hgx⟩ : ∃ g, g = w3.heap.size := ⟨_, rfl⟩
    rw [← hgx] at hx4 ⊢
    clear hgx
    refine wp_go ?_
    go_wp2_with (refine wp_ld 27 (.tmp 3) rfl rfl rfl hx4.whole Try.underlying27 rfl (by rw [Hm3.out]; exact sizeM) ?_)
    refine (Hp3.out _ _ _ hub' hup').mono ?_
    rintro e w5 ⟨v5, rfl, ho5, hB5⟩
    obtain ⟨P5, hP5⟩ : ∃ Q, Q = if er = 0 then P else [] := ⟨_, rfl⟩
    rw [← hP5] at ho5
    have HP5 := hid hP5
    clear hP5
    obtain ⟨A5, c5, rfl⟩ := own_shape ho5
    have hr5 := Rd.of_own ho5
    have hvb := hvb.below hB5
    have hub := hub.below hB5
    have hup := hup.below hB5
    have hub' := hub'.below hB5
    have hup' := hup'.below hB5
    have hx4 := hx4.below hB5
    have hB := hB.trans (hB5.mono hB.size)
    clear hB5 ho5
    go_wp2_with (refine wp_ld 27 (.tmp 1) rfl rfl rfl hvb.whole Try.underlying27 rfl (by rw [Hmn.out]; exact sizeM) ?_)
    refine (Hrput.out (by first | rfl | trivial) _ (hub.weak (fun b hb _ => hb)) (hup.weak (fun b hb _ => hb))).mono ?_
    rintro e w6 ⟨v6, rfl, ho6, hB6⟩
    rw [← HP5.out] at ho6
    obtain ⟨A6, c6, rfl⟩ := own_shape ho6
    have hr6 := Rd.of_own ho6
    have hvb := hvb.below hB6
    have hub := hub.below hB6
    have hup := hup.below hB6
    have hub' := hub'.below hB6
    have hup' := hup'.below hB6
    have hx4 := hx4.below hB6
    have hr5 := hr5.below hB6
    have hB := hB.trans (hB6.mono hB.size)
    clear hB6 ho6
    go_wp2_with (fail)
    refine (same_b _ _ P5 P5 _ _ _ hr5 hr6).mono ?_
    rintro e w7 ⟨rfl, hB7⟩
    rw [decide_eq_true rfl]
    have hvb := hvb.below hB7
    have hub := hub.below hB7
    have hup := hup.below hB7
    have hub' := hub'.below hB7
    have hup' := hup'.below hB7
    have hx4 := hx4.below hB7
    have hr5 := hr5.below hB7
    have hB := hB.trans (hB7.mono hB.size)
    clear hB7 hr6
    have hne : ((er : Int) != (er : Int)) = false := by simp
    go_wp2_with (first | (refine wp_ldg 27 (.tmp 3) (by rfl) rfl rfl hx4.whole Try.underlying27 rfl (by rw [Hm3.out]; exact sizeM) ?_) | (refine wp_ldg 27 (.tmp 1) (by rfl) rfl rfl hvb.whole Try.underlying27 rfl (by rw [Hmn.out]; exact sizeM) ?_))
    refine (Hs3.out _ _ _ _ _ hps hub' hup' hub hup).mono ?_
    rintro e w8 ⟨rfl, hB8⟩
    have hvb := hvb.below hB8
    have hub := hub.below hB8
    have hup := hup.below hB8
    have hr5 := hr5.below hB8
    have hB := hB.trans (hB8.mono hB.size)
    clear hB8 hx4 hub' hup' hne
    by_cases he : er = 0
    · subst he
      have hP5 : P5 = P := HP5.out
      subst hP5
      go_wp2_with (fail)
      refine (Hget.out (by first | rfl | trivial) (by first | rfl | trivial) _ _ _ hr5).mono ?_
      rintro e w9 ⟨ub9, up9, rfl, hub9, hup9, hB9⟩
      obtain ⟨A9, c9, rfl⟩ := hub9.shape
      obtain ⟨A10, c10, rfl, _, _⟩ := hup9.slShape
      have hvb := hvb.below hB9
      have hub := hub.below hB9
      have hup := hup.below hB9
      have hB := hB.trans (hB9.mono hB.size)
      have hm9 := len_mg hh (.slice A9 m.b.length c9) (.slice A10 m.ps.length c10)
      have h19 : ∀ v ∈ m.l (.slice A9 m.b.length c9) (.slice A10 m.ps.length c10), v.oneCell' = true := one_mg
      have hsa := Hsame.out (.slice A9 m.b.length c9) (.slice A10 m.ps.length c10)
      obtain ⟨l9, hl9⟩ : ∃ l, l = m.l (.slice A9 m.b.length c9) (.slice A10 m.ps.length c10) := ⟨_, rfl⟩
      rw [← hl9] at hm9 h19 hsa ⊢
      have Hm9 := hid hm9
      have H19 := hid h19
      have Hs9 := hid hsa
      clear hB9 hl9 hm9 h19 hsa hr5
      go_wp2_with (refine wp_newst 27 8 (.tmp 46) rfl rfl rfl rfl rfl rfl zeroM (l := l9) rfl (by rw [Hm9.out]; exact len_zM) (by rw [Hm9.out]; exact sizeM) H19.out (by simp) ?_; intro w10 hx10 hB10 hs10; refine wp_stop ?_)
      have hvb := hvb.below hB10
      have hub := hub.below hB10
      have hup := hup.below hB10
      have hub9 := hub9.below hB10
      have hup9 := hup9.below hB10
      have hB := hB.trans (hB10.mono hB.size)
      clear hB10 hs10
      obtain ⟨gy, hgy⟩ : ∃ g, g = w9.heap.size := ⟨_, rfl⟩
      rw [← hgy] at hx10 ⊢
      clear hgy
      refine wp_go ?_
      go_wp2_with (first | (refine wp_ldg 27 (.tmp 8) (by rfl) rfl rfl hx10.whole Try.underlying27 rfl (by rw [Hm9.out]; exact sizeM) ?_) | (refine wp_ldg 27 (.tmp 1) (by rfl) rfl rfl hvb.whole Try.underlying27 rfl (by rw [Hmn.out]; exact sizeM) ?_))
      refine (Hs9.out _ _ _ _ _ hps hub9 hup9 hub hup).mono ?_
      rintro e w11 ⟨rfl, hB11⟩
      go_wp2
      go_ret
      exact ⟨rfl, hB.trans (hB11.mono hB.size)⟩
    · have hne : ((er : Int) != 0) = true := by rw [bne_iff_ne]; omega
      go_wp2
      go_ret
      exact ⟨rfl, hB⟩
end Go.Proofs.Ythejallmkcohpaa
