/- JN: layer 13: VotesNil. -/
import Derived.Test.YtkoncjcnpconkaaJL
namespace Go.Proofs.Ytkoncjcnpconkaa
open Go.RowKit Go.V
set_option maxRecDepth 100000 in
set_option maxHeartbeats 4000000 in
theorem votesNil_law (m : Vt) (ub up : Value) (F1 F2 : Nat → Prop) (w : World) (hm : VtIn m) (hub : Rd w F1 ub (bys m.b)) (hup : Rd w F2 up (tx m.ps)) :
    Calls Try.prog 7 #[m.val ub up] w fun e w' => e = .returned (.bool true) ∧ Below w.heap.size w w' := by
  obtain ⟨AB, cb, rfl⟩ := hub.shape
  obtain ⟨AP, cpp, rfl, _, _⟩ := hup.slShape
  have htk := fun (W : World) (h1 : Rd W F1 (.slice AB m.b.length cb) (bys m.b)) (h2 : Rd W F2 (.slice AP m.ps.length cpp) (tx m.ps)) => btake13_nil (m.val (.slice AB m.b.length cb) (.slice AP m.ps.length cpp)) W ⟨m, _, _, F1, F2, rfl, h1, h2, hm⟩
  unfold Vt.val at htk ⊢
  have hmn := len_vt m (.slice AB m.b.length cb) (.slice AP m.ps.length cpp)
  obtain ⟨l, hl⟩ : ∃ l, l = m.l (.slice AB m.b.length cb) (.slice AP m.ps.length cpp) := ⟨_, rfl⟩
  have e1 : l[1]? = some (.int .i64 m.v) := by rw [hl]; rfl
  have e2 : l[2]? = some (.int .i64 m.r) := by rw [hl]; rfl
  rw [← hl] at htk hmn ⊢
  have Hmn := hid hmn
  have Htk := hid htk
  clear hl hmn htk
  have hvb := Blk.new' w 27 l
  have hB : Below w.heap.size w (w.alloc (.cells l.toArray 27)) := (Below.refl _ _).alloc (Nat.le_refl _) _
  have hub := hub.below hB
  have hup := hup.below hB
  go_enter Try.func7, Try.ntmps7
  go_wp2_with (fail)
  refine (wakes13_any _).mono ?_
  rintro e w1 ⟨rfl, hB1⟩
  have hvb := hvb.below hB1
  have hub := hub.below hB1
  have hup := hup.below hB1
  have hB := hB.trans (hB1.mono hB.size)
  obtain ⟨g, hg⟩ : ∃ g, g = w.heap.size := ⟨_, rfl⟩
  rw [← hg] at hvb ⊢
  clear hg hB1
  go_wp2_with (fail)
  refine (breg13_nil _).mono ?_
  rintro e w2 ⟨rfl, hB2⟩
  have hvb := hvb.below hB2
  have hub := hub.below hB2
  have hup := hup.below hB2
  have hB := hB.trans (hB2.mono hB.size)
  clear hB2
  have c1 := hvb.cellAt 1 _ e1
  have c2 := hvb.cellAt 2 _ e2
  go_wp2_with (fail)
  refine (bwrote13_nil _ _ _).mono ?_
  unfold Vt.val
  rw [zV_l]
  rintro e w3 ⟨rfl, hB3⟩
  have hvb := hvb.below hB3
  have hub := hub.below hB3
  have hup := hup.below hB3
  have hB := hB.trans (hB3.mono hB.size)
  clear hB3 c1 c2
  go_wp2_with (refine wp_newst 27 6 (.tmp 24) rfl rfl rfl rfl rfl rfl zeroV13 (l := zVl) rfl rfl (by rw [len_zVl]; exact sizeVt) one_zVl (by simp) ?_; intro w4 hq4 hB4 hs4; refine wp_stop ?_)
  have hvb := hvb.below hB4
  have hub := hub.below hB4
  have hup := hup.below hB4
  have hB := hB.trans (hB4.mono hB.size)
  clear hB4 hs4 hq4
  refine wp_go ?_
  go_wp2_with (fail)
  refine (bacc13_nil _).mono ?_
  unfold Vt.val
  rw [zV_l]
  rintro e w5 ⟨rfl, hB5⟩
  have hvb := hvb.below hB5
  have hub := hub.below hB5
  have hup := hup.below hB5
  have hB := hB.trans (hB5.mono hB.size)
  clear hB5
  go_wp2_with (refine wp_newst 27 8 (.tmp 29) rfl rfl rfl rfl rfl rfl zeroV13 (l := zVl) rfl rfl (by rw [len_zVl]; exact sizeVt) one_zVl (by simp) ?_; intro w6 hq6 hB6 hs6; refine wp_stop ?_)
  have hvb := hvb.below hB6
  have hub := hub.below hB6
  have hup := hup.below hB6
  have hB := hB.trans (hB6.mono hB.size)
  clear hB6 hs6 hq6
  refine wp_go ?_
  go_wp2_with (refine wp_ld 27 (.tmp 1) rfl rfl rfl hvb.whole Try.underlying27 rfl (by rw [Hmn.out]; exact sizeVt) ?_)
  refine (Htk.out _ hub hup).mono ?_
  rintro e w7 ⟨rfl, hB7⟩
  have hB := hB.trans (hB7.mono hB.size)
  clear hB7 hvb hub hup
  go_wp2_with (fail)
  refine (bslot13_nil _).mono ?_
  rintro e w8 ⟨rfl, hB8⟩
  have hB := hB.trans (hB8.mono hB.size)
  clear hB8
  go_wp2_with (fail)
  refine (ball13_nil _).mono ?_
  rintro e w9 ⟨A9, c9, rfl, hB9⟩
  go_wp2
  go_ret
  exact ⟨rfl, hB.trans (hB9.mono hB.size)⟩
end Go.Proofs.Ytkoncjcnpconkaa
