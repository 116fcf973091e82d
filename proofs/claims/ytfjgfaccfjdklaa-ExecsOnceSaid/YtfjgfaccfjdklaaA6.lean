/- A6: layer 15: ExecsViews. -/
import Derived.Test.YtfjgfaccfjdklaaA5
namespace Go.Proofs.Ytfjgfaccfjdklaa
open Go.RowKit Go.V
theorem cell_ch {w w' : World} {g off : Nat} {u : Value} (h : Ch nob w w') (hc : w.cell? ⟨g, off, none⟩ = some u) : w'.cell? ⟨g, off, none⟩ = some u := (h.below.cell (lt_of_cell hc)).trans hc
theorem do_s (E : We) (l : List Rq) : (doW E l).1.s = E.s + 1 := rfl
theorem do_u (E : We) (l : List Rq) : (doW E l).1.u = E.v := rfl
set_option maxRecDepth 100000 in
set_option maxHeartbeats 8000000 in
theorem execsViews_law (l : List (List Rq)) (v : Value) (F : Nat → Prop) (w : World) (hl : Rd w F v (bts l)) (hin : ∀ x ∈ l, ∀ r ∈ x, in64 r.a ∧ in64 r.b) :
    Calls Try.prog 4 #[v] w fun e w' => e = .returned (.bool true) ∧ Below w.heap.size w w' := by
  have hlo := fun X (h : Rd X F v (bts l)) => long15_any l v F X h
  obtain ⟨A, c, rfl⟩ := bts_shape hl
  obtain ⟨Z, hZ⟩ : ∃ Z, Z = longB l := ⟨_, rfl⟩
  have HZ : Hid (Z = decide (30 < l.length ∨ ∃ x ∈ l, 10 < x.length)) := hZ
  rw [← hZ] at hlo
  have Hlo := hid hlo
  have Hl0 := hid hl
  have Hin := hid hin
  have hv31 : i64s (⟨0, 31⟩ : Vw).n ∧ (⟨0, 31⟩ : Vw).m < 65536 := ⟨by show i64s 0; unfold i64s; omega, by show 31 < 65536; omega⟩
  have Hfi := hid (fun X => efirst15_any ⟨0, 31⟩ X hv31)
  clear hlo hin hZ
  go_enter Try.func4, Try.ntmps4
  go_wp2_with (fail)
  refine (wakes15_any _).mono ?_
  rintro e w1 ⟨rfl, hB1⟩
  have hl := hl.below hB1
  go_wp2_with (fail)
  refine (Hlo.out _ hl).mono ?_
  rintro e w2 ⟨rfl, hB2⟩
  have hl := hl.below hB2
  have hB := hB1.trans (hB2.mono hB1.size)
  cases Z with
  | true =>
    clear HZ
    go_wp2
    go_ret
    exact ⟨rfl, hB⟩
  | false =>
    have hbv := bldVw 31
    have h30 : l.length ≤ 30 := by
      have := of_decide_eq_false HZ.out.symm
      rcases Nat.lt_or_ge 30 l.length with h | h
      · exact absurd (.inl h) this
      · exact h
    have Hx10 : Hid (∀ x ∈ l, x.length ≤ 1000) := fun x hx => by
      have := of_decide_eq_false HZ.out.symm
      rcases Nat.lt_or_ge 10 x.length with h | h
      · exact absurd (.inr ⟨x, hx, h⟩) this
      · omega
    clear HZ Hlo
    go_wp2_with (refine wp_bld 28 [(1, .const (.int .u16 31))] rfl rfl [(1, .int .u16 31)] rfl hbv ?_)
    refine (Hfi.out _).mono ?_
    rintro e w3 ⟨rfl, hB3⟩
    have hl := hl.below hB3
    have hB := hB.trans (hB3.mono hB.size)
    have hwi := first_in (v := ⟨0, 31⟩) hv31
    have hwl := wol hwi
    have HL := hid hwl.len
    have HO := hid hwl.one
    clear hbv hwl
    go_wp2_with (refine wp_newst 38 3 (.tmp 12) rfl rfl rfl rfl rfl rfl zeroWo (l := (firstW ⟨0, 31⟩).l) rfl (by rw [HL.out]; exact len_zWo) (by rw [HL.out]; exact sizeW15) HO.out (by simp) ?_; intro w4 b3 hB4 hs4; refine wp_stop ?_)
    have hl := hl.below hB4
    obtain ⟨g3, hg3⟩ : ∃ g, g = w3.heap.size := ⟨_, rfl⟩
    have hg3w : w.heap.size ≤ g3 := by rw [hg3]; exact hB.size
    rw [← hg3] at b3 ⊢
    have hB := hB.trans (hB4.mono hB.size)
    clear hg3 hs4 HL HO hB4 hB3 hB2 hB1
    refine wp_go ?_
    have H3 := hid b3
    clear b3 hl
    go_wp2
    go_loopw [15] (fun iv wr => ∃ (i : Nat) (W : Wo), i ≤ l.length ∧ iv = .int .i64 i ∧ WoIn W ∧ OKC W.c ∧ W.s = i ∧ Blk wr g3 38 W.l ∧ Below w.heap.size w wr) (fun i _ => l.length - (intOf i).toNat)
    case atStart => exact ⟨0, firstW ⟨0, 31⟩, Nat.zero_le _, rfl, hwi, okc_zero, rfl, H3.out, hB⟩
    case round =>
      clear H3 hB hwi
      obtain ⟨i, W, hi, rfl, hwi, hok, hsi, b3, hB⟩ := hrel
      have hl := Hl0.out.below hB
      by_cases hlt : i < l.length
      · have hI : (i : Int) < (l.length : Int) := by omega
        obtain ⟨x, hx⟩ : ∃ x, l[i]? = some x := ⟨_, List.getElem?_eq_getElem hlt⟩
        obtain ⟨g, off, G, cp, rfl, hc, hrx⟩ := bts_el hl hx
        have hwl := wol hwi
        have hdo := fun X hr => edo15_any W x (.slice G x.length cp) F X hwi hok ⟨by omega, by omega⟩ hr (Hin.out x (List.mem_of_getElem? hx)) (Hx10.out x (List.mem_of_getElem? hx))
        obtain ⟨lw, hlw⟩ : ∃ q, q = W.l := ⟨_, rfl⟩
        rw [← hlw] at hwl hdo b3
        have HW := hid hwl
        have Hdo := hid hdo
        have Hvw := hid (do_view W.e x)
        have b3lt := b3.lt
        have C0 := hid (fun Y (h : Ch nob wr Y) => (b3.ch h (fun e => e)).whole)
        have C4 := hid (fun Y (h : Ch nob wr Y) => cell_ch h hc)
        clear hwl hdo hlw hc hx
        go_upto_region 9 with (fail)
        refine wp_region_noPanic ?_
        refine wp_region_held_drew (S := Ch nob wr) (by kernel_rfl) ((Ch.refl _ _).drew) (fun hHeld => ?_)
        refine wpAnyH_take (i := 0) (oi := ⟨some 19, .load 38 (.tmp 3), _, _, _, none⟩) (v := _) rfl (by kernel_rfl) (by kernel_rfl) (by kernel_rfl) (fun _ _ _ h => h) (yieldsIf_load_mid (by rfl) 38 (.tmp 3) (by rfl) _ (0) (by rfl) _ _ (fun _ hs => C0.out _ hs) Try.underlying38 rfl (by rw [HW.out.len]; exact sizeW15)) (by assumption) ?_
        try simp only [Act.put, List.setIfInBounds_toArray, List.set_cons_zero, List.set_cons_succ]
        refine wpAnyH_take (i := 1) (oi := ⟨some 20, _, _, _, _, none⟩) (v := ?_) rfl (by kernel_rfl) (by kernel_rfl) (by kernel_rfl) (fun _ _ _ h => h) (Or.inl ⟨by rfl, ?_⟩) (by assumption) ?_
        rotate_left
        · intro w hSw; go_simp; try with_reducible rfl
        try simp only [Act.put, List.setIfInBounds_toArray, List.set_cons_zero, List.set_cons_succ]
        refine wpAnyH_take (i := 2) (oi := ⟨some 21, _, _, _, _, none⟩) (v := ?_) rfl (by kernel_rfl) (by kernel_rfl) (by kernel_rfl) (fun _ _ _ h => h) (Or.inl ⟨by rfl, ?_⟩) (by assumption) ?_
        rotate_left
        · intro w hSw; go_simp; try with_reducible rfl
        try simp only [Act.put, List.setIfInBounds_toArray, List.set_cons_zero, List.set_cons_succ]
        refine wpAnyH_take (i := 3) (oi := ⟨some 22, _, _, _, _, none⟩) (v := ?_) rfl (by kernel_rfl) (by kernel_rfl) (by kernel_rfl) (fun _ _ _ h => h) (Or.inl ⟨by rfl, ?_⟩) (by assumption) ?_
        rotate_left
        · intro w hSw; go_simp; try with_reducible rfl
        try simp only [Act.put, List.setIfInBounds_toArray, List.set_cons_zero, List.set_cons_succ]
        refine wpAnyH_take (i := 4) (oi := ⟨some 23, _, _, _, _, none⟩) (v := ?_) rfl (by kernel_rfl) (by kernel_rfl) (by kernel_rfl) (fun _ _ _ h => h) (Or.inl ⟨by rfl, ?_⟩) (by assumption) ?_
        rotate_left
        · intro w hSw; have hcw := C4.out w hSw; go_simp; try with_reducible rfl
        try simp only [Act.put, List.setIfInBounds_toArray, List.set_cons_zero, List.set_cons_succ]
        refine wpAnyH_ready (rs := [5, 9]) (by kernel_rfl) (by simp) ?_
        refine AllReadyH.cons (o := ⟨some 24, _, _, _, _, none⟩) rfl (fun K hK => ?_) ?_
        · go_simp
          refine (Hdo.out _ (hrx.below hHeld.below)).mono ?_
          rintro e' w7 ⟨W2, rv, rfl, hin2, hok2, he2, _, _, hB7⟩
          have hwl2 := wol hin2
          obtain ⟨l2, hl2⟩ : ∃ q, q = W2.l := ⟨_, rfl⟩
          rw [← hl2] at hwl2 ⊢
          have HW2 := hid hwl2
          have Hl2 := hid hl2
          clear hwl2 hl2
          refine hK.out _ _ (hHeld.belowR hB7) (fun hHeld => ?_)
          clear hK K
          try simp only [Act.put, List.setIfInBounds_toArray, List.set_cons_zero, List.set_cons_succ]
          refine wpAnyH_take (i := 6) (oi := ⟨some 18, _, _, _, _, none⟩) (v := ?_) rfl (by kernel_rfl) (by kernel_rfl) (by kernel_rfl) (fun _ _ _ h => h) (Or.inl ⟨by rfl, ?_⟩) (by assumption) ?_
          rotate_left
          · intro w hSw; go_simp; try with_reducible rfl
          try simp only [Act.put, List.setIfInBounds_toArray, List.set_cons_zero, List.set_cons_succ]
          refine wpAnyH_take (i := 7) (oi := ⟨some 25, _, _, _, _, none⟩) (v := ?_) rfl (by kernel_rfl) (by kernel_rfl) (by kernel_rfl) (fun _ _ _ h => h) (Or.inl ⟨by rfl, ?_⟩) (by assumption) ?_
          rotate_left
          · intro w hSw; go_simp; try with_reducible rfl
          try simp only [Act.put, List.setIfInBounds_toArray, List.set_cons_zero, List.set_cons_succ]
          refine wpAnyH_take (i := 8) (oi := ⟨some 26, _, _, _, _, none⟩) (v := ?_) rfl (by kernel_rfl) (by kernel_rfl) (by kernel_rfl) (fun _ _ _ h => h) (Or.inl ⟨by rfl, ?_⟩) (by assumption) ?_
          rotate_left
          · intro w hSw; go_simp; try with_reducible rfl
          try simp only [Act.put, List.setIfInBounds_toArray, List.set_cons_zero, List.set_cons_succ]
          refine wpAnyH_ready (rs := [9]) (by kernel_rfl) (by simp) ?_
          refine AllReadyH.cons (o := ⟨some 5, .alloc _, _, _, _, none⟩) rfl (fun K hK => ?_) AllReadyH.nil
          refine step_new 38 (by rfl) (by rfl) zeroWo ?_
          intro g5 w9 hg5 hgl5 hz9 hB9
          have hg5 : wr.heap.size ≤ g5 := Nat.le_trans hHeld.size hg5
          refine hK.out _ _ (hHeld.belowR hB9) (fun hHeld => ?_)
          clear hK K
          try simp only [Act.put, List.setIfInBounds_toArray, List.set_cons_zero, List.set_cons_succ]
          refine wpAnyH_ready (rs := [10]) (by kernel_rfl) (by simp) ?_
          refine AllReadyH.cons (o := ⟨none, _, _, _, _, none⟩) rfl (fun K hK => ?_) AllReadyH.nil
          refine step_st 38 (.tmp 5) (.tmp 25) (by rfl) (by rfl) (by rfl) (f := 0) (by rfl) (l := l2) (by rfl) hz9 (by rw [HW2.out.len, len_zWo]; omega) (by rw [HW2.out.len]; exact sizeW15) HW2.out.one ?_
          intro w10 hb5 hG10
          refine hK.out _ _ (hHeld.grow hG10 (fun k hk => .inr (by injection hk with hk; omega))) (fun hHeld => ?_)
          clear hK K
          try simp only [Act.put, List.setIfInBounds_toArray, List.set_cons_zero, List.set_cons_succ]
          refine wpAnyH_take (i := 11) (oi := ⟨some 6, _, _, _, _, none⟩) (v := ?_) rfl (by kernel_rfl) (by kernel_rfl) (by kernel_rfl) (fun _ _ _ h => h) (Or.inl ⟨by rfl, ?_⟩) (by assumption) ?_
          rotate_left
          · intro w hSw; go_simp; try with_reducible rfl
          try simp only [Act.put, List.setIfInBounds_toArray, List.set_cons_zero, List.set_cons_succ]
          refine wpAnyH_done (by kernel_rfl) ?_ _
          refine NoPanic.normal ?_
          have b5 := hb5
          rw [set_all _ _ (by rw [HW2.out.len]; exact len_zWo)] at b5
          have b3 := b3.ch hHeld (fun e => e)
          have hB := hB.trans (hHeld.below.mono hB.size)
          have hne : g3 ≠ g5 := fun e => by omega
          clear hb5 hz9 hG10 hB7 hB9 hHeld C0 C4 Hdo hrx hl
          have hs2 : W2.s = (i : Int) + 1 := by have := congrArg We.s he2; rw [do_s] at this; rw [← hsi]; exact this
          have hu2 : W2.u = W.v := congrArg We.u he2
          have hv2 : W2.v = (doW W.e x).1.v := congrArg We.v he2
          have hf2 : W2.f = (doW W.e x).1.f := congrArg We.f he2
          have hvw := Hvw.out
          rw [← hv2, ← hf2, show (doW W.e x).1.s = W2.s from (congrArg We.s he2).symm] at hvw
          have x0 := b5.cellAt 0 _ HW2.out.s
          have x1 := b5.cellAt 1 _ HW2.out.f
          have x2 := b5.cellAt 2 _ (HW2.out.v 0 _ rfl)
          have x3 := b5.cellAt 3 _ (HW2.out.v 1 _ rfl)
          have x4 := b5.cellAt 4 _ (HW2.out.u 0 _ rfl)
          have x5 := b5.cellAt 5 _ (HW2.out.u 1 _ rfl)
          have y0 := b3.cellAt 0 _ HW.out.s
          have y1 := b3.cellAt 1 _ HW.out.f
          have y2 := b3.cellAt 2 _ (HW.out.v 0 _ rfl)
          have y3 := b3.cellAt 3 _ (HW.out.v 1 _ rfl)
          rw [hu2] at x4 x5
          rw [hsi] at y0
          have hin2' := hin2
          have kS : IntKind.i64.wrap (W2.s - 1) = (i : Int) := by rw [hs2]; exact (IntWalk.i64_in _ (by omega)).trans (by omega)
          have hb2 : i64s W2.v.n := hin2.v.1
          have hbf : i64s W2.f := hin2.f
          unfold i64s at hb2 hbf
          have hvn := hwi.v.1
          unfold i64s at hvn
          have hk2 : ∃ k2, k2 = W2.s := ⟨_, rfl⟩
          obtain ⟨k2, hk2⟩ := hk2
          rw [← hk2] at x0 kS hvw
          have Hk2 := hid (hk2.trans hs2)
          have Hs2 := hid hs2
          clear hs2 hk2 hu2 hf2 Hvw
          have Hi2 := hid hin2
          have Hk := hid hok2
          have HB3 := hid b3
          clear he2 hin2 hin2' hok2
          rcases hvw with ⟨hv, hf⟩ | ⟨hn, hnv, hf⟩
          · have hv' : W2.v = W.v := hv
            have hf' : W2.f = W.f := hf
            rw [hv'] at x2 x3
            rw [hf'] at x1
            clear hv hf hv' hf' hv2 hb2 hbf hvn
            go_upto_region 14 with (fail)
            go_wp2_with (with_reducible refine wp_at 77 rfl ?_)
            refine wp_on ?_
            refine wp_ld 38 (.tmp 5) rfl rfl rfl b5.whole Try.underlying38 rfl (by rw [HW2.out.len]; exact sizeW15) ?_
            refine wp_st 38 (.tmp 3) (.tmp 77) rfl rfl rfl (f := 0) rfl (l := l2) rfl HB3.out (by rw [HW.out.len, HW2.out.len]; omega) (by rw [HW2.out.len]; exact sizeW15) HW2.out.one ?_
            intro w11 hd11 hG11
            rw [set_all _ _ (by rw [HW.out.len, HW2.out.len])] at hd11
            have hB := hB.grown hG11 hB.size (fun k hk => by injection hk with hk; omega)
            clear x0 x1 x2 x3 x4 x5 y0 y1 y2 y3 b5 hG11
            go_wp2
            go_roundw
            case rel => exact ⟨i + 1, W2, by omega, by go_num, Hi2.out, Hk.out, by rw [Hs2.out]; go_num, by rw [← Hl2.out]; exact hd11, hB⟩
            case measure => simp [intOf]; omega
          · have hn' : W2.v.n = W.v.n + 1 := hn
            have hf' : W2.f = k2 + 1 := hf
            have hne2 : decide (W2.v.n = W.v.n) = false := decide_eq_false (by omega)
            have hne3 : ¬ W2.v.n = W.v.n := by omega
            have kN : IntKind.i64.wrap (W2.v.n - 1) = W.v.n := (IntWalk.i64_in _ (by omega)).trans (by omega)
            have kF : IntKind.i64.wrap (W2.f - 1) = k2 := (IntWalk.i64_in _ (by have := Hk2.out; omega)).trans (by omega)
            clear hn hnv hf hn' hf' hb2 hbf hvn hv2
            go_upto_region 14 with (fail)
            go_wp2_with (with_reducible refine wp_at 77 rfl ?_)
            refine wp_on ?_
            refine wp_ld 38 (.tmp 5) rfl rfl rfl b5.whole Try.underlying38 rfl (by rw [HW2.out.len]; exact sizeW15) ?_
            refine wp_st 38 (.tmp 3) (.tmp 77) rfl rfl rfl (f := 0) rfl (l := l2) rfl HB3.out (by rw [HW.out.len, HW2.out.len]; omega) (by rw [HW2.out.len]; exact sizeW15) HW2.out.one ?_
            intro w11 hd11 hG11
            rw [set_all _ _ (by rw [HW.out.len, HW2.out.len])] at hd11
            have hB := hB.grown hG11 hB.size (fun k hk => by injection hk with hk; omega)
            clear x0 x1 x2 x3 x4 x5 y0 y1 y2 y3 b5 hG11
            go_wp2
            go_roundw
            case rel => exact ⟨i + 1, W2, by omega, by go_num, Hi2.out, Hk.out, by rw [Hs2.out]; go_num, by rw [← Hl2.out]; exact hd11, hB⟩
            case measure => simp [intOf]; omega
        refine AllReadyH.cons (o := ⟨some 5, .alloc _, _, _, _, none⟩) rfl (fun K hK => ?_) AllReadyH.nil
        refine step_new 38 (by rfl) (by rfl) zeroWo ?_
        intro g5 w9 hg5 hgl5 hz9 hB9
        have hg5 : wr.heap.size ≤ g5 := Nat.le_trans hHeld.size hg5
        refine hK.out _ _ (hHeld.belowR hB9) (fun hHeld => ?_)
        clear hK K
        try simp only [Act.put, List.setIfInBounds_toArray, List.set_cons_zero, List.set_cons_succ]
        refine wpAnyH_ready (rs := [5]) (by kernel_rfl) (by simp) ?_
        refine AllReadyH.cons (o := ⟨some 24, _, _, _, _, none⟩) rfl (fun K hK => ?_) AllReadyH.nil
        go_simp
        refine (Hdo.out _ (hrx.below hHeld.below)).mono ?_
        rintro e' w7 ⟨W2, rv, rfl, hin2, hok2, he2, _, _, hB7⟩
        have hwl2 := wol hin2
        obtain ⟨l2, hl2⟩ : ∃ q, q = W2.l := ⟨_, rfl⟩
        rw [← hl2] at hwl2 ⊢
        have HW2 := hid hwl2
        have Hl2 := hid hl2
        clear hwl2 hl2
        have hz9 := hz9.below hB7
        refine hK.out _ _ (hHeld.belowR hB7) (fun hHeld => ?_)
        clear hK K
        try simp only [Act.put, List.setIfInBounds_toArray, List.set_cons_zero, List.set_cons_succ]
        refine wpAnyH_take (i := 6) (oi := ⟨some 18, _, _, _, _, none⟩) (v := ?_) rfl (by kernel_rfl) (by kernel_rfl) (by kernel_rfl) (fun _ _ _ h => h) (Or.inl ⟨by rfl, ?_⟩) (by assumption) ?_
        rotate_left
        · intro w hSw; go_simp; try with_reducible rfl
        try simp only [Act.put, List.setIfInBounds_toArray, List.set_cons_zero, List.set_cons_succ]
        refine wpAnyH_take (i := 7) (oi := ⟨some 25, _, _, _, _, none⟩) (v := ?_) rfl (by kernel_rfl) (by kernel_rfl) (by kernel_rfl) (fun _ _ _ h => h) (Or.inl ⟨by rfl, ?_⟩) (by assumption) ?_
        rotate_left
        · intro w hSw; go_simp; try with_reducible rfl
        try simp only [Act.put, List.setIfInBounds_toArray, List.set_cons_zero, List.set_cons_succ]
        refine wpAnyH_take (i := 8) (oi := ⟨some 26, _, _, _, _, none⟩) (v := ?_) rfl (by kernel_rfl) (by kernel_rfl) (by kernel_rfl) (fun _ _ _ h => h) (Or.inl ⟨by rfl, ?_⟩) (by assumption) ?_
        rotate_left
        · intro w hSw; go_simp; try with_reducible rfl
        try simp only [Act.put, List.setIfInBounds_toArray, List.set_cons_zero, List.set_cons_succ]
        refine wpAnyH_ready (rs := [10]) (by kernel_rfl) (by simp) ?_
        refine AllReadyH.cons (o := ⟨none, _, _, _, _, none⟩) rfl (fun K hK => ?_) AllReadyH.nil
        refine step_st 38 (.tmp 5) (.tmp 25) (by rfl) (by rfl) (by rfl) (f := 0) (by rfl) (l := l2) (by rfl) hz9 (by rw [HW2.out.len, len_zWo]; omega) (by rw [HW2.out.len]; exact sizeW15) HW2.out.one ?_
        intro w10 hb5 hG10
        refine hK.out _ _ (hHeld.grow hG10 (fun k hk => .inr (by injection hk with hk; omega))) (fun hHeld => ?_)
        clear hK K
        try simp only [Act.put, List.setIfInBounds_toArray, List.set_cons_zero, List.set_cons_succ]
        refine wpAnyH_take (i := 11) (oi := ⟨some 6, _, _, _, _, none⟩) (v := ?_) rfl (by kernel_rfl) (by kernel_rfl) (by kernel_rfl) (fun _ _ _ h => h) (Or.inl ⟨by rfl, ?_⟩) (by assumption) ?_
        rotate_left
        · intro w hSw; go_simp; try with_reducible rfl
        try simp only [Act.put, List.setIfInBounds_toArray, List.set_cons_zero, List.set_cons_succ]
        refine wpAnyH_done (by kernel_rfl) ?_ _
        refine NoPanic.normal ?_
        have b5 := hb5
        rw [set_all _ _ (by rw [HW2.out.len]; exact len_zWo)] at b5
        have b3 := b3.ch hHeld (fun e => e)
        have hB := hB.trans (hHeld.below.mono hB.size)
        have hne : g3 ≠ g5 := fun e => by omega
        clear hb5 hz9 hG10 hB7 hB9 hHeld C0 C4 Hdo hrx hl
        have hs2 : W2.s = (i : Int) + 1 := by have := congrArg We.s he2; rw [do_s] at this; rw [← hsi]; exact this
        have hu2 : W2.u = W.v := congrArg We.u he2
        have hv2 : W2.v = (doW W.e x).1.v := congrArg We.v he2
        have hf2 : W2.f = (doW W.e x).1.f := congrArg We.f he2
        have hvw := Hvw.out
        rw [← hv2, ← hf2, show (doW W.e x).1.s = W2.s from (congrArg We.s he2).symm] at hvw
        have x0 := b5.cellAt 0 _ HW2.out.s
        have x1 := b5.cellAt 1 _ HW2.out.f
        have x2 := b5.cellAt 2 _ (HW2.out.v 0 _ rfl)
        have x3 := b5.cellAt 3 _ (HW2.out.v 1 _ rfl)
        have x4 := b5.cellAt 4 _ (HW2.out.u 0 _ rfl)
        have x5 := b5.cellAt 5 _ (HW2.out.u 1 _ rfl)
        have y0 := b3.cellAt 0 _ HW.out.s
        have y1 := b3.cellAt 1 _ HW.out.f
        have y2 := b3.cellAt 2 _ (HW.out.v 0 _ rfl)
        have y3 := b3.cellAt 3 _ (HW.out.v 1 _ rfl)
        rw [hu2] at x4 x5
        rw [hsi] at y0
        have hin2' := hin2
        have kS : IntKind.i64.wrap (W2.s - 1) = (i : Int) := by rw [hs2]; exact (IntWalk.i64_in _ (by omega)).trans (by omega)
        have hb2 : i64s W2.v.n := hin2.v.1
        have hbf : i64s W2.f := hin2.f
        unfold i64s at hb2 hbf
        have hvn := hwi.v.1
        unfold i64s at hvn
        have hk2 : ∃ k2, k2 = W2.s := ⟨_, rfl⟩
        obtain ⟨k2, hk2⟩ := hk2
        rw [← hk2] at x0 kS hvw
        have Hk2 := hid (hk2.trans hs2)
        have Hs2 := hid hs2
        clear hs2 hk2 hu2 hf2 Hvw
        have Hi2 := hid hin2
        have Hk := hid hok2
        have HB3 := hid b3
        clear he2 hin2 hin2' hok2
        rcases hvw with ⟨hv, hf⟩ | ⟨hn, hnv, hf⟩
        · have hv' : W2.v = W.v := hv
          have hf' : W2.f = W.f := hf
          rw [hv'] at x2 x3
          rw [hf'] at x1
          clear hv hf hv' hf' hv2 hb2 hbf hvn
          go_upto_region 14 with (fail)
          go_wp2_with (with_reducible refine wp_at 77 rfl ?_)
          refine wp_on ?_
          refine wp_ld 38 (.tmp 5) rfl rfl rfl b5.whole Try.underlying38 rfl (by rw [HW2.out.len]; exact sizeW15) ?_
          refine wp_st 38 (.tmp 3) (.tmp 77) rfl rfl rfl (f := 0) rfl (l := l2) rfl HB3.out (by rw [HW.out.len, HW2.out.len]; omega) (by rw [HW2.out.len]; exact sizeW15) HW2.out.one ?_
          intro w11 hd11 hG11
          rw [set_all _ _ (by rw [HW.out.len, HW2.out.len])] at hd11
          have hB := hB.grown hG11 hB.size (fun k hk => by injection hk with hk; omega)
          clear x0 x1 x2 x3 x4 x5 y0 y1 y2 y3 b5 hG11
          go_wp2
          go_roundw
          case rel => exact ⟨i + 1, W2, by omega, by go_num, Hi2.out, Hk.out, by rw [Hs2.out]; go_num, by rw [← Hl2.out]; exact hd11, hB⟩
          case measure => simp [intOf]; omega
        · have hn' : W2.v.n = W.v.n + 1 := hn
          have hf' : W2.f = k2 + 1 := hf
          have hne2 : decide (W2.v.n = W.v.n) = false := decide_eq_false (by omega)
          have hne3 : ¬ W2.v.n = W.v.n := by omega
          have kN : IntKind.i64.wrap (W2.v.n - 1) = W.v.n := (IntWalk.i64_in _ (by omega)).trans (by omega)
          have kF : IntKind.i64.wrap (W2.f - 1) = k2 := (IntWalk.i64_in _ (by have := Hk2.out; omega)).trans (by omega)
          clear hn hnv hf hn' hf' hb2 hbf hvn hv2
          go_upto_region 14 with (fail)
          go_wp2_with (with_reducible refine wp_at 77 rfl ?_)
          refine wp_on ?_
          refine wp_ld 38 (.tmp 5) rfl rfl rfl b5.whole Try.underlying38 rfl (by rw [HW2.out.len]; exact sizeW15) ?_
          refine wp_st 38 (.tmp 3) (.tmp 77) rfl rfl rfl (f := 0) rfl (l := l2) rfl HB3.out (by rw [HW.out.len, HW2.out.len]; omega) (by rw [HW2.out.len]; exact sizeW15) HW2.out.one ?_
          intro w11 hd11 hG11
          rw [set_all _ _ (by rw [HW.out.len, HW2.out.len])] at hd11
          have hB := hB.grown hG11 hB.size (fun k hk => by injection hk with hk; omega)
          clear x0 x1 x2 x3 x4 x5 y0 y1 y2 y3 b5 hG11
          go_wp2
          go_roundw
          case rel => exact ⟨i + 1, W2, by omega, by go_num, Hi2.out, Hk.out, by rw [Hs2.out]; go_num, by rw [← Hl2.out]; exact hd11, hB⟩
          case measure => simp [intOf]; omega
      · have hI : ¬ (i : Int) < (l.length : Int) := by omega
        go_wp2
        go_ret
        exact ⟨rfl, hB⟩
end Go.Proofs.Ytfjgfaccfjdklaa
