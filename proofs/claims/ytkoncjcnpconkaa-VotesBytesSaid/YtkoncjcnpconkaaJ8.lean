/- J8: layer 13: VotesBytes. -/
import Derived.Test.YtkoncjcnpconkaaJL
namespace Go.Proofs.Ytkoncjcnpconkaa
open Go.RowKit Go.V
set_option maxRecDepth 100000 in
set_option maxHeartbeats 4000000 in
theorem votesBytes_law (m : Vt) (ub up : Value) (F1 F2 : Nat → Prop) (w : World) (hm : VtIn m) (hub : Rd w F1 ub (bys m.b)) (hup : Rd w F2 up (tx m.ps)) :
    Calls Try.prog 3 #[m.val ub up] w fun e w' => e = .returned (.bool true) ∧ Below w.heap.size w w' := by
  obtain ⟨AB, cb, rfl⟩ := hub.shape
  obtain ⟨AP, cpp, rfl, _, _⟩ := hup.slShape
  have hub := hub.weak (F' := fun b => b < w.heap.size) (fun b h _ => h)
  have hup := hup.weak (F' := fun b => b < w.heap.size) (fun b h _ => h)
  have hput := fun hlo F1 F2 W h1 h2 => bput13_any m (.slice AB m.b.length cb) (.slice AP m.ps.length cpp) F1 F2 W hm (VtSm.of hlo) h1 h2
  have hrput := fun hlo W h1 h2 => rput13_any m (.slice AB m.b.length cb) (.slice AP m.ps.length cpp) W hlo h1 h2
  have hsame := fun (ub1 up1 : Value) F1 F2 F3 F4 W hn h1 h2 h3 h4 => same13_any m ub1 up1 (.slice AB m.b.length cb) (.slice AP m.ps.length cpp) F1 F2 F3 F4 W h1 h2 h3 h4 hn
  have hget := fun he v F W h => bget13_any m v F W he h
  have hlb : longV m = false → m.ps.length ≤ 1000000 ∧ (Vt.by m).length ≤ 63260 := fun h => ⟨by have := (longV_bd h).2.1; omega, len_vby h⟩
  obtain ⟨er, her⟩ : ∃ er, er = errV m := ⟨_, rfl⟩
  rw [← her] at hput hrput hget
  obtain ⟨lg, hlg⟩ : ∃ lg, lg = longV m := ⟨_, rfl⟩
  rw [← hlg] at hput hrput hlb
  obtain ⟨P, hP⟩ : ∃ P, P = Vt.by m := ⟨_, rfl⟩
  rw [← hP] at hput hrput hget hlb
  have Hlg := hid hlg
  clear her hP hlg
  unfold Vt.val at hput hrput hsame ⊢
  have hmn := len_vt m (.slice AB m.b.length cb) (.slice AP m.ps.length cpp)
  have hel := vt_mk hub hup
  obtain ⟨l, hl⟩ : ∃ l, l = m.l (.slice AB m.b.length cb) (.slice AP m.ps.length cpp) := ⟨_, rfl⟩
  rw [← hl] at hput hrput hsame hmn hel ⊢
  have Hmn := hid hmn
  clear hl hmn
  have hvb := Blk.new' w 27 l
  have hB : Below w.heap.size w (w.alloc (.cells l.toArray 27)) := (Below.refl _ _).alloc (Nat.le_refl _) _
  have hub := hub.below hB
  have hup := hup.below hB
  have Hel := hid (hel.below hB)
  clear hel
  have Hput := hid hput
  have Hrput := hid hrput
  have Hsame := hid hsame
  have Hget := hid hget
  have Hlb := hid hlb
  clear hput hrput hsame hget hlb
  go_enter Try.func3, Try.ntmps3
  go_wp2_with (fail)
  refine (wakes13_any _).mono ?_
  rintro e w1 ⟨rfl, hB1⟩
  have hvb := hvb.below hB1
  have hub := hub.below hB1
  have hup := hup.below hB1
  have Hel := hid (Hel.out.below hB1)
  have hB := hB.trans (hB1.mono hB.size)
  obtain ⟨g, hg⟩ : ∃ g, g = w.heap.size := ⟨_, rfl⟩
  rw [← hg] at hvb ⊢
  clear hg hB1
  have hal : Below w1.heap.size w1 (w1.alloc (.cells l.toArray 27)) := (Below.refl _ _).alloc (Nat.le_refl _) _
  have hw2 := wds_one (F := fun _ => True) (Blk.new' w1 27 l) ((Hel.out.below hal).keep (fun _ _ _ => ⟨trivial, rfl⟩)) trivial
  go_wp2_with (first | refine wp_ld 27 (.tmp 1) rfl rfl rfl hvb.whole Try.underlying27 rfl (by rw [Hmn.out]; exact sizeVt) ?_ | refine wp_bsW (.tmp 11) slV13 rfl rfl (us := l) rfl Hmn.out ?_)
  refine (long13_any [m] _ _ _ hw2).mono ?_
  rintro e w2 ⟨rfl, rfl⟩
  rw [longVs_one, ← Hlg.out]
  have hvb := hvb.below hal
  have hub := hub.below hal
  have hup := hup.below hal
  have hB := hB.trans (hal.mono hB.size)
  clear hw2
  obtain ⟨w2, hw2⟩ : ∃ x, x = w1.alloc (.cells l.toArray 27) := ⟨_, rfl⟩
  rw [← hw2] at hvb hub hup hB ⊢
  clear hw2 hal
  cases lg with
  | true =>
    go_wp2
    go_ret
    exact ⟨rfl, hB⟩
  | false =>
    obtain ⟨hps, hPl⟩ := Hlb.out rfl
    go_wp2_with (refine wp_ld 27 (.tmp 1) rfl rfl rfl hvb.whole Try.underlying27 rfl (by rw [Hmn.out]; exact sizeVt) ?_)
    refine (Hput.out (by first | rfl | trivial) _ _ _ hub hup).mono ?_
    rintro e w5 ⟨v5, rfl, ho5, hB5⟩
    obtain ⟨P5, hP5⟩ : ∃ Q, Q = if er = 0 then P else [] := ⟨_, rfl⟩
    rw [← hP5] at ho5
    have HP5 := hid hP5
    clear hP5
    obtain ⟨A5, c5, rfl⟩ := own_shape ho5
    have hr5 := Rd.of_own ho5
    have hvb := hvb.below hB5
    have hub := hub.below hB5
    have hup := hup.below hB5
    have hB := hB.trans (hB5.mono hB.size)
    clear hB5 ho5
    go_wp2_with (refine wp_ld 27 (.tmp 1) rfl rfl rfl hvb.whole Try.underlying27 rfl (by rw [Hmn.out]; exact sizeVt) ?_)
    refine (Hrput.out (by first | rfl | trivial) _ (hub.weak (fun b hb _ => hb)) (hup.weak (fun b hb _ => hb))).mono ?_
    rintro e w6 ⟨v6, rfl, ho6, hB6⟩
    rw [← HP5.out] at ho6
    obtain ⟨A6, c6, rfl⟩ := own_shape ho6
    have hr6 := Rd.of_own ho6
    have hr5 := hr5.below hB6
    have hvb := hvb.below hB6
    have hub := hub.below hB6
    have hup := hup.below hB6
    have hB := hB.trans (hB6.mono hB.size)
    clear hB6 ho6
    have hne : ((er : Int) != (er : Int)) = false := bne_self_eq_false _
    go_wp2_with (fail)
    refine (same_b _ _ P5 P5 _ _ _ hr5 hr6).mono ?_
    rintro e w7 ⟨rfl, hB7⟩
    rw [decide_eq_true rfl]
    have hr5 := hr5.below hB7
    have hvb := hvb.below hB7
    have hub := hub.below hB7
    have hup := hup.below hB7
    have hB := hB.trans (hB7.mono hB.size)
    clear hB7 hr6
    by_cases h0 : er = 0
    case neg =>
      have hz : ((er : Int) != 0) = true := by rw [bne_iff_ne]; omega
      clear h0
      go_wp2
      go_ret
      exact ⟨rfl, hB⟩
    subst h0
    have hP5 : P5 = P := by rw [HP5.out, if_pos rfl]
    subst hP5
    go_wp2_with (fail)
    refine (Hget.out (by first | rfl | trivial) _ _ _ hr5).mono ?_
    rintro e w8 ⟨ub', up', rfl, hub', hup', hB8⟩
    obtain ⟨A8, c8, rfl⟩ := hub'.shape
    obtain ⟨B8, d8, rfl, _, _⟩ := hup'.slShape
    unfold Vt.val
    have hm3 := len_vt m (.slice A8 m.b.length c8) (.slice B8 m.ps.length d8)
    have h13 : ∀ v ∈ m.l (.slice A8 m.b.length c8) (.slice B8 m.ps.length d8), v.oneCell' = true := one_vt
    have hsa := Hsame.out (.slice A8 m.b.length c8) (.slice B8 m.ps.length d8)
    obtain ⟨l3, hl3⟩ : ∃ l, l = m.l (.slice A8 m.b.length c8) (.slice B8 m.ps.length d8) := ⟨_, rfl⟩
    rw [← hl3] at hm3 h13 hsa ⊢
    have Hm3 := hid hm3
    have Hs3 := hid hsa
    have hvb := hvb.below hB8
    have hub := hub.below hB8
    have hup := hup.below hB8
    have hB := hB.trans (hB8.mono hB.size)
    clear hl3 hm3 hsa hB8 hr5
    go_wp2_with (refine wp_newst 27 7 (.tmp 38) rfl rfl rfl rfl rfl rfl zeroV13 (l := l3) rfl (by rw [Hm3.out]; exact len_zVl) (by rw [Hm3.out]; exact sizeVt) h13 (by simp) ?_; intro w9 hx9 hB9 hs9; refine wp_stop ?_)
    obtain ⟨gx, hgx⟩ : ∃ g, g = w8.heap.size := ⟨_, rfl⟩
    rw [← hgx] at hx9 ⊢
    clear hgx hs9
    have hvb := hvb.below hB9
    have hub := hub.below hB9
    have hup := hup.below hB9
    have hub' := hub'.below hB9
    have hup' := hup'.below hB9
    have hB := hB.trans (hB9.mono hB.size)
    refine wp_go ?_
    go_wp2_with (first | (refine wp_ldg 27 (.tmp 7) (by rfl) rfl rfl hx9.whole Try.underlying27 rfl (by rw [Hm3.out]; exact sizeVt) ?_) | (refine wp_ldg 27 (.tmp 1) (by rfl) rfl rfl hvb.whole Try.underlying27 rfl (by rw [Hmn.out]; exact sizeVt) ?_))
    refine (Hs3.out _ _ _ _ _ hps hub' hup' hub hup).mono ?_
    rintro e w10 ⟨rfl, hB10⟩
    go_wp2
    go_ret
    exact ⟨rfl, hB.trans (hB10.mono hB.size)⟩
end Go.Proofs.Ytkoncjcnpconkaa
