/- I6: layer 12: the document's Read. -/
import Derived.Test.YtijhicfegbaadaaDoorI1
import Derived.Test.YtijhicfegbaadaaDoorI5
namespace Go.Proofs.YtijhicfegbaadaaDoor
open Go.RowKit Go.V
def readE (r : Option (List UInt8)) : Int := match r with
  | none => 2
  | some _ => 0
set_option maxRecDepth 100000 in
set_option maxHeartbeats 8000000 in
theorem read12_any (v : Value) (bs : List UInt8) (F : Nat → Prop) (w : World) (h : Rd w F v (bys bs)) (hl : bs.length ≤ 1000000) :
    Calls Tryd.prog 13 #[v] w fun e w' => ∃ u, e = .returned (.tuple #[u, .int .i64 (readE (readS bs))]) ∧ Rd w' (fun b => w.heap.size ≤ b) u (bys ((readS bs).getD [])) ∧ Below w.heap.size w w' := by
  obtain ⟨A, c, rfl⟩ := h.shape
  have hrt := rtext_any _ bs 0 65536 F w h (by omega) (by omega) (by omega)
  rw [List.drop_zero] at hrt
  obtain ⟨Z, hZ⟩ : ∃ Z, Z = readS bs := ⟨_, rfl⟩
  rw [← hZ]
  have HZ := hid hZ
  clear hZ
  cases hr : textR 65536 bs with
  | error e =>
    have he : 1 ≤ e := by
      unfold textR at hr
      cases hc : cntR 65536 (readPk bs) with
      | error e2 =>
        rw [hc] at hr
        injection hr with hr
        subst hr
        exact (cnt_err hc (fun _ h => rd_err h)).1
      | ok p =>
        rw [hc] at hr
        dsimp only at hr
        split at hr
        · injection hr with hr; omega
        · cases hr
    have hn : Hid (Z = none) := by
      show _ = _
      rw [HZ.out]
      unfold readS
      rw [hr]
    rw [show ((65536 : Nat) : Int) = 65536 from rfl, hr] at hrt
    have Hrt := hid hrt
    clear hrt hr
    go_enter Tryd.func13, Tryd.ntmps13
    go_wp2_with (fail)
    refine Hrt.out.mono ?_
    rintro e' w1 ⟨rfl, hB1⟩
    go_wp2_with (first | (refine wp_newst 66 4 (.tmp 6) rfl rfl rfl rfl rfl rfl zeroGot (l := gotL 0 (.slice none 0 0) 0 e) rfl rfl sizeGot (one_got 0 0 e _ _ _) (by simp) ?_; intro w3 hb3 hB3 hs3; refine wp_stop ?_))
    have hBB := hB1.trans (hB3.mono hB1.size)
    obtain ⟨g3, hg3⟩ : ∃ g3, g3 = w1.heap.size := ⟨_, rfl⟩
    rw [← hg3] at hb3 ⊢
    clear hg3 hB3 hs3 hB1
    have c3 := hb3.cellAt 3 _ rfl
    have ne : ((e : Int) != 0) = true := by rw [bne_iff_ne]; omega
    refine wp_go ?_
    go_wp2
    go_ret2
    refine ⟨_, by rw [hn.out]; rfl, ?_, hBB⟩
    rw [hn.out]
    exact Rd.nil _ _
  | ok p =>
    obtain ⟨n, sz⟩ := p
    rw [show ((65536 : Nat) : Int) = 65536 from rfl, hr] at hrt
    obtain ⟨t, ht⟩ : ∃ t, t = (bs.drop sz).take n := ⟨_, rfl⟩
    have htl : t.length ≤ 1000000 := by rw [ht, List.length_take, List.length_drop]; omega
    have hz : Hid (Z = if toldF t = bs then some t else none) := by
      show _ = _
      rw [HZ.out]
      unfold readS
      rw [hr, ht]
    have hrt2 : Calls Tryd.prog 29 #[.slice A bs.length c, .int .i64 0, .int .i64 65536] w fun e w' => ∃ v, e = .returned (.agg (gotL 0 v (sz + n) 0).toArray) ∧ Rd w' (fun b => w.heap.size ≤ b) v (bys t) ∧ Below w.heap.size w w' := by
      rw [ht]
      exact hrt
    obtain ⟨sn, hsn⟩ : ∃ sn, sn = sz + n := ⟨_, rfl⟩
    rw [← hsn] at hrt2
    have Hrt := hid hrt2
    clear hrt hrt2 hr ht hsn
    go_enter Tryd.func13, Tryd.ntmps13
    go_wp2_with (fail)
    refine Hrt.out.mono ?_
    rintro e' w1 ⟨v1, rfl, hv1, hB1⟩
    obtain ⟨A1, c1', rfl⟩ := hv1.shape
    go_wp2_with (first | (refine wp_newst 66 4 (.tmp 6) rfl rfl rfl rfl rfl rfl zeroGot (l := gotL 0 (.slice A1 t.length c1') sn 0) rfl rfl sizeGot (one_got 0 sn 0 _ _ _) (by simp) ?_; intro w3 hb3 hB3 hs3; refine wp_stop ?_))
    have hBB := hB1.trans (hB3.mono hB1.size)
    have hv3 := hv1.below hB3
    have h3 := h.below hBB
    obtain ⟨g3, hg3⟩ : ∃ g3, g3 = w1.heap.size := ⟨_, rfl⟩
    rw [← hg3] at hb3 ⊢
    clear hg3 hB3 hs3 hB1 hv1 Hrt
    have c3 := hb3.cellAt 3 _ rfl
    have c1 := hb3.cellAt 1 _ rfl
    refine wp_go ?_
    go_wp2_with (fail)
    refine (told12_any _ t _ _ hv3 (by omega)).mono ?_
    rintro e' w4 ⟨v4, rfl, ho4, hB4⟩
    obtain ⟨A4, c4, rfl⟩ := own_shape ho4
    have hr4 := Rd.of_own ho4
    have hb4 := hb3.below hB4
    have hv4 := hv3.below hB4
    have h4 := h3.below hB4
    have hB4' := hBB.trans (hB4.mono hBB.size)
    clear c1 c3 hb3 hv3 h3 hBB ho4 hB4
    go_wp2_with (fail)
    refine (same_b _ _ (toldF t) bs _ _ _ hr4 h4).mono ?_
    rintro e' w5 ⟨rfl, hB5⟩
    have hb5 := hb4.below hB5
    have hv5 := hv4.below hB5
    have hB5' := hB4'.trans (hB5.mono hB4'.size)
    have c1 := hb5.cellAt 1 _ rfl
    clear hb4 hv4 h4 hB4' hr4 hB5
    by_cases hq : toldF t = bs
    · have hs : Hid (Z = some t) := by show _ = _; rw [hz.out, if_pos hq]
      rw [decide_eq_true hq]
      have Hv5 := hid hv5
      clear hq hz hv5
      go_wp2
      go_ret2
      refine ⟨_, by rw [hs.out]; rfl, ?_, hB5'⟩
      rw [hs.out]
      exact Hv5.out
    · have hs : Hid (Z = none) := by show _ = _; rw [hz.out, if_neg hq]
      rw [decide_eq_false hq]
      clear hq hz hv5
      go_wp2
      go_ret2
      refine ⟨_, by rw [hs.out]; rfl, ?_, hB5'⟩
      rw [hs.out]
      exact Rd.nil _ _
end Go.Proofs.YtijhicfegbaadaaDoor
