/- A7: layer 15: ExecsOnce. -/
import Derived.Test.YtfjgfaccfjdklaaA6
import Derived.Test.YtfjgfaccfjdklaaAE
namespace Go.Proofs.Ytfjgfaccfjdklaa
open Go.RowKit Go.V
theorem sizeCs15 : (Try.prog.info? 31).map (·.size) = some 32 := by kernel_rfl
theorem sizeRs15 : (Try.prog.info? 36).map (·.size) = some 30 := by kernel_rfl
theorem sizeV15 : (Try.prog.info? 28).map (·.size) = some 2 := by kernel_rfl
theorem sizeQ15 : (Try.prog.info? 47).map (·.size) = some 7 := by kernel_rfl
theorem do_s2 (E : We) (l : List Rq) : (doW E l).1.s = E.s + 1 := rfl
theorem idle_e {W : Wo} {l : List Rq} (h : idle W.e l) {W' : Wo} (he : W'.e = (doW W.e l).1) : W'.s = W.s + 1 ∧ W'.f = W.f ∧ W'.v = W.v ∧ W'.u = W.v ∧ W'.a = W.a := by
  rw [do_idle h] at he
  exact ⟨congrArg We.s he, congrArg We.f he, congrArg We.v he, congrArg We.u he, congrArg We.a he⟩
set_option maxRecDepth 100000 in
set_option maxHeartbeats 16000000 in
theorem execsOnce_law (l : List Rq) (m : List (List Rq)) (vl vm : Value) (F G : Nat → Prop) (w : World) (hl : Rd w F vl (rqs l)) (hm : Rd w G vm (bts m)) (hil : ∀ r ∈ l, in64 r.a ∧ in64 r.b) (hin : ∀ x ∈ m, ∀ r ∈ x, in64 r.a ∧ in64 r.b) :
    Calls Try.prog 3 #[vl, vm] w fun e w' => e = .returned (.bool true) ∧ Below w.heap.size w w' := by
  have hlo := fun X (h : Rd X G vm (bts m)) => long15_any m vm G X h
  obtain ⟨A, c, rfl⟩ := bts_shape hm
  obtain ⟨Al, cl, rfl⟩ := rqs_shape hl
  obtain ⟨Z, hZ⟩ : ∃ Z, Z = longB m := ⟨_, rfl⟩
  have HZ : Hid (Z = decide (30 < m.length ∨ ∃ x ∈ m, 10 < x.length)) := hZ
  rw [← hZ] at hlo
  have Hlo := hid hlo
  have Hm0 := hid hm
  have Hl0 := hid hl
  have Hin := hid hin
  have Hil := hid hil
  have hv15 : i64s (⟨0, 15⟩ : Vw).n ∧ (⟨0, 15⟩ : Vw).m < 65536 := ⟨by show i64s 0; unfold i64s; omega, by show 15 < 65536; omega⟩
  have Hfi := hid (fun X => efirst15_any ⟨0, 15⟩ X hv15)
  clear hlo hin hZ hil
  go_enter Try.func3, Try.ntmps3
  go_wp2_with (fail)
  refine (wakes15_any _).mono ?_
  rintro e w1 ⟨rfl, hB1⟩
  have hm := hm.below hB1
  go_wp2_with (fail)
  refine (Hlo.out _ hm).mono ?_
  rintro e w2 ⟨rfl, hB2⟩
  have hB := hB1.trans (hB2.mono hB1.size)
  clear hm hl hB1 hB2
  cases Z with
  | true =>
    clear HZ
    go_wp2
    go_ret
    exact ⟨rfl, hB⟩
  | false =>
    have h30 : m.length ≤ 30 := by
      have := of_decide_eq_false HZ.out.symm
      rcases Nat.lt_or_ge 30 m.length with h | h
      · exact absurd (.inl h) this
      · exact h
    have Hx10 : Hid (∀ x ∈ m, x.length ≤ 1000) := fun x hx => by
      have := of_decide_eq_false HZ.out.symm
      rcases Nat.lt_or_ge 10 x.length with h | h
      · exact absurd (.inr ⟨x, hx, h⟩) this
      · omega
    clear HZ Hlo
    by_cases h10 : 10 < l.length
    · have hI : (10 : Int) < (l.length : Int) := by omega
      go_wp2
      go_ret
      exact ⟨rfl, hB⟩
    have hI : ¬ (10 : Int) < (l.length : Int) := by omega
    have Hl10 := hid (show l.length ≤ 1000 by omega)
    have hbv := bldVw 15
    go_wp2_with (refine wp_bld 28 [(1, .const (.int .u16 15))] rfl rfl [(1, .int .u16 15)] rfl hbv ?_)
    refine (Hfi.out _).mono ?_
    rintro e w3 ⟨rfl, hB3⟩
    have hB := hB.trans (hB3.mono hB.size)
    have hwi := first_in (v := ⟨0, 15⟩) hv15
    have hwl := wol hwi
    have hdo := fun X hr => edo15_any (firstW ⟨0, 15⟩) l (.slice Al l.length cl) F X hwi okc_zero ⟨by show (-4611686018427387904 : Int) ≤ 0; omega, by show (0 : Int) ≤ _; omega⟩ hr Hil.out Hl10.out
    have hdd : idle (doW (firstW ⟨0, 15⟩).e l).1 l := do_done _ l (by show (firstW ⟨0, 15⟩).a.length = 6; exact hwi.a.1)
    have Hdd := hid hdd
    have Hd0 := hid (show (doW (firstW ⟨0, 15⟩).e l).1.s = 1 from rfl)
    obtain ⟨lw, hlw⟩ : ∃ q, q = (firstW ⟨0, 15⟩).l := ⟨_, rfl⟩
    rw [← hlw] at hwl hdo ⊢
    have Hdo := hid hdo
    have HL := hid hwl.len
    have HO := hid hwl.one
    clear hbv hwl hwi hlw hdo hdd Hfi hv15
    go_wp2_with (refine wp_newst 38 5 (.tmp 20) rfl rfl rfl rfl rfl rfl zeroWo (l := lw) rfl (by rw [HL.out]; exact len_zWo) (by rw [HL.out]; exact sizeW15) HO.out (by simp) ?_; intro w4 b5 hB4 hs4; refine wp_stop ?_)
    obtain ⟨g5, hg5⟩ : ∃ g, g = w3.heap.size := ⟨_, rfl⟩
    have hg5w : w.heap.size ≤ g5 := by rw [hg5]; exact hB.size
    rw [← hg5] at b5 ⊢
    have hB := hB.trans (hB4.mono hB.size)
    clear hg5 hs4 hB4 hB3
    refine wp_go ?_
    go_wp2_with (refine wp_ld 38 (.tmp 5) rfl rfl rfl b5.whole Try.underlying38 rfl (by rw [HL.out]; exact sizeW15) ?_)
    refine (Hdo.out _ (Hl0.out.below hB)).mono ?_
    rintro e w5 ⟨W1, rv, rfl, hwi, hok, he, _, _, hB5⟩
    have b5 := b5.below hB5
    have hB := hB.trans (hB5.mono hB.size)
    have hwl := wol hwi
    have hid1 : idle W1.e l := by rw [he]; exact Hdd.out
    have hs1 : W1.s = 1 := (congrArg We.s he).trans Hd0.out
    obtain ⟨l1, hl1⟩ : ∃ q, q = W1.l := ⟨_, rfl⟩
    rw [← hl1] at hwl ⊢
    have HL1 := hid hwl.len
    have HO1 := hid hwl.one
    have Hl1 := hid hl1
    have Hs1 := hid hs1
    have Hid1 := hid hid1
    have Hok1 := hid hok
    have Hwi1 := hid hwi
    clear hwl hl1 hs1 hid1 hok hwi he Hdd Hd0 Hdo hB5
    go_wp2_with (refine wp_st 38 (.tmp 5) (.tmp 25) rfl rfl rfl (f := 0) rfl (l := l1) rfl b5 (by rw [HL.out, HL1.out]; omega) (by rw [HL1.out]; exact sizeW15) HO1.out ?_; intro w6 k5 G5; refine wp_stop ?_)
    rw [set_all _ _ (by rw [HL.out, HL1.out])] at k5
    have hB := hB.grown G5 hB.size (fun k hk => by injection hk with hk; omega)
    have H5 := hid k5
    clear b5 k5 G5
    refine wp_go ?_
    go_wp2
    go_loopw [29] (fun iv wr => ∃ (i : Nat) (W : Wo), i ≤ m.length ∧ iv = .int .i64 i ∧ Hid (WoIn W) ∧ Hid (OKC W.c) ∧ Hid (W.s = (i : Int) + 1) ∧ Hid (idle W.e l) ∧ Blk wr g5 38 W.l ∧ Below w.heap.size w wr) (fun i _ => m.length - (intOf i).toNat)
    case atStart => exact ⟨0, W1, Nat.zero_le _, rfl, Hwi1, Hok1, by show _ = _; rw [Hs1.out]; rfl, Hid1, by rw [← Hl1.out]; exact H5.out, hB⟩
    case round =>
      clear H5 hB
      obtain ⟨i, W, hi, rfl, hwi, hok, hsi, hidl, b5, hB⟩ := hrel
      have hwl := wol hwi.out
      obtain ⟨lw2, hlw⟩ : ∃ q, q = W.l := ⟨_, rfl⟩
      rw [← hlw] at hwl b5
      have HW := hid hwl
      have Hlw := hid hlw
      clear hwl hlw
      have hsb : -4611686018427387904 ≤ W.s ∧ W.s ≤ 4611686018427387904 := by have := hsi.out; omega
      by_cases hlt : i < m.length
      · have hI2 : (i : Int) < (m.length : Int) := by omega
        have hmr := Hm0.out.below hB
        obtain ⟨x, hx⟩ : ∃ x, m[i]? = some x := ⟨_, List.getElem?_eq_getElem hlt⟩
        obtain ⟨g, off, Gx, cp, rfl, hc, hrx⟩ := bts_el hmr hx
        have hdo := fun X hr => edo15_any W x (.slice Gx x.length cp) G X hwi.out hok.out hsb hr (Hin.out x (List.mem_of_getElem? hx)) (Hx10.out x (List.mem_of_getElem? hx))
        rw [← Hlw.out] at hdo
        have Hdo := hid hdo
        have Hidx := hid (idle_do (l := l) (m := x) (show W.e.a.length = 6 from hwi.out.a.1) hidl.out)
        clear hdo hx hsb hmr
        go_upto_region 10 with (fail)
        have hBd : Below wr.heap.size wr wr.drew := (Below.refl _ _).drew
        have b5 := b5.below hBd
        have hrx := hrx.below hBd
        have hB := hB.trans (hBd.mono hB.size)
        have hc : wr.drew.cell? ⟨g, off + i, none⟩ = some (.slice Gx x.length cp) := hc
        obtain ⟨wd, hwd⟩ : ∃ x, x = wr.drew := ⟨_, rfl⟩
        rw [← hwd] at b5 hrx hB hc
        refine wp_region_noPanic ?_
        refine wp_region_any (by kernel_rfl) ?_
        change wpAny _ _ _ _ _ _ _ (World.drew _)
        rw [← hwd]
        clear hwd hBd
        refine wpAny_take (i := 1) (oi := ⟨some 34, _, _, _, _, none⟩) (v := ?_) rfl (by kernel_rfl) (by kernel_rfl) (by kernel_rfl) (fun _ _ _ h => h) (Or.inl ⟨by rfl, ?_⟩) ?_
        rotate_left
        · intro w; go_simp; try with_reducible rfl
        try simp only [Act.put, List.setIfInBounds_toArray, List.set_cons_zero, List.set_cons_succ]
        refine wpAny_take (i := 2) (oi := ⟨some 35, _, _, _, _, none⟩) (v := ?_) rfl (by kernel_rfl) (by kernel_rfl) (by kernel_rfl) (fun _ _ _ h => h) (Or.inl ⟨by rfl, ?_⟩) ?_
        rotate_left
        · intro w; go_simp; try with_reducible rfl
        try simp only [Act.put, List.setIfInBounds_toArray, List.set_cons_zero, List.set_cons_succ]
        refine wpAny_take (i := 3) (oi := ⟨some 36, _, _, _, _, none⟩) (v := ?_) rfl (by kernel_rfl) (by kernel_rfl) (by kernel_rfl) (fun _ _ _ h => h) (Or.inl ⟨by rfl, ?_⟩) ?_
        rotate_left
        · intro w; go_simp; try with_reducible rfl
        try simp only [Act.put, List.setIfInBounds_toArray, List.set_cons_zero, List.set_cons_succ]
        refine wpAny_ready (rs := [0, 4]) (by kernel_rfl) (by simp) ?_
        refine AllReady.cons (o := ⟨some 33, .load 38 (.tmp 5), _, _, _, none⟩) rfl (fun K hK => ?_) ?_
        · refine step_ld 38 (.tmp 5) (by rfl) (by rfl) (by rfl) b5.whole Try.underlying38 rfl (by rw [HW.out.len]; exact sizeW15) ?_
          refine hK _ _ ?_
          clear hK K
          try simp only [Act.put, List.setIfInBounds_toArray, List.set_cons_zero, List.set_cons_succ]
          refine wpAny_ready (rs := [4]) (by kernel_rfl) (by simp) ?_
          refine AllReady.cons (o := ⟨some 37, .load 22 (.tmp 36), _, _, _, none⟩) rfl (fun K hK => ?_) AllReady.nil
          refine step_ld1 22 (.tmp 36) (by rfl) (by rfl) (by rfl) hc Try.isAgg22 ?_
          refine hK _ _ ?_
          clear hK K
          try simp only [Act.put, List.setIfInBounds_toArray, List.set_cons_zero, List.set_cons_succ]
          refine wpAny_ready (rs := [5]) (by kernel_rfl) (by simp) ?_
          refine AllReady.cons (o := ⟨some 38, _, _, _, _, none⟩) rfl (fun K hK => ?_) AllReady.nil
          go_simp
          refine (Hdo.out _ hrx).mono ?_
          rintro e' w7 ⟨W2, rv, rfl, hin2, hok2, he2, _, _, hB7⟩
          have hwl2 := wol hin2
          obtain ⟨l2, hl2⟩ : ∃ q, q = W2.l := ⟨_, rfl⟩
          rw [← hl2] at hwl2 ⊢
          have HW2 := hid hwl2
          have Hl2 := hid hl2
          have He2 := hid he2
          have b5 := b5.below hB7
          have hB := hB.trans (hB7.mono hB.size)
          clear hwl2 hl2 he2
          refine hK _ _ ?_
          clear hK K
          try simp only [Act.put, List.setIfInBounds_toArray, List.set_cons_zero, List.set_cons_succ]
          refine wpAny_take (i := 6) (oi := ⟨some 32, _, _, _, _, none⟩) (v := ?_) rfl (by kernel_rfl) (by kernel_rfl) (by kernel_rfl) (fun _ _ _ h => h) (Or.inl ⟨by rfl, ?_⟩) ?_
          rotate_left
          · intro w; go_simp; try with_reducible rfl
          try simp only [Act.put, List.setIfInBounds_toArray, List.set_cons_zero, List.set_cons_succ]
          refine wpAny_take (i := 7) (oi := ⟨some 39, _, _, _, _, none⟩) (v := ?_) rfl (by kernel_rfl) (by kernel_rfl) (by kernel_rfl) (fun _ _ _ h => h) (Or.inl ⟨by rfl, ?_⟩) ?_
          rotate_left
          · intro w; go_simp; try with_reducible rfl
          try simp only [Act.put, List.setIfInBounds_toArray, List.set_cons_zero, List.set_cons_succ]
          refine wpAny_take (i := 8) (oi := ⟨some 40, _, _, _, _, none⟩) (v := ?_) rfl (by kernel_rfl) (by kernel_rfl) (by kernel_rfl) (fun _ _ _ h => h) (Or.inl ⟨by rfl, ?_⟩) ?_
          rotate_left
          · intro w; go_simp; try with_reducible rfl
          try simp only [Act.put, List.setIfInBounds_toArray, List.set_cons_zero, List.set_cons_succ]
          refine wpAny_ready (rs := [9]) (by kernel_rfl) (by simp) ?_
          refine AllReady.cons (o := ⟨none, _, _, _, _, none⟩) rfl (fun K hK => ?_) AllReady.nil
          refine step_st 38 (.tmp 5) (.tmp 39) (by rfl) (by rfl) (by rfl) (f := 0) (by rfl) (l := l2) (by rfl) b5 (by rw [HW2.out.len, HW.out.len]; omega) (by rw [HW2.out.len]; exact sizeW15) HW2.out.one ?_
          intro w10 k5 hG10
          refine hK _ _ ?_
          clear hK K
          try simp only [Act.put, List.setIfInBounds_toArray, List.set_cons_zero, List.set_cons_succ]
          refine wpAny_done (by kernel_rfl) ?_ _
          refine NoPanic.normal ?_
          rw [set_all _ _ (by rw [HW2.out.len, HW.out.len])] at k5
          have hB := hB.grown hG10 hB.size (fun k hk => by injection hk with hk; omega)
          clear hc Hdo hrx hG10 hB7 b5
          have Hs2 : Hid (W2.s = ((i + 1 : Nat) : Int) + 1) := by show _ = _; have h1 := congrArg We.s He2.out; have h2 := do_s2 W.e x; have h3 : W.e.s = W.s := rfl; have h4 : W2.e.s = W2.s := rfl; have h5 := hsi.out; omega
          have Hd2 : Hid (idle W2.e l) := by show idle W2.e l; rw [He2.out]; exact Hidx.out
          rw [Hl2.out] at k5
          have Hk5 := hid k5
          clear k5
          go_wp2
          go_roundw
          case rel => exact ⟨i + 1, W2, by omega, by go_num, hid hin2, hid hok2, Hs2, Hd2, Hk5.out, hB⟩
          case measure => simp [intOf]; omega
        refine AllReady.cons (o := ⟨some 37, .load 22 (.tmp 36), _, _, _, none⟩) rfl (fun K hK => ?_) AllReady.nil
        refine step_ld1 22 (.tmp 36) (by rfl) (by rfl) (by rfl) hc Try.isAgg22 ?_
        refine hK _ _ ?_
        clear hK K
        try simp only [Act.put, List.setIfInBounds_toArray, List.set_cons_zero, List.set_cons_succ]
        refine wpAny_ready (rs := [0]) (by kernel_rfl) (by simp) ?_
        refine AllReady.cons (o := ⟨some 33, .load 38 (.tmp 5), _, _, _, none⟩) rfl (fun K hK => ?_) AllReady.nil
        refine step_ld 38 (.tmp 5) (by rfl) (by rfl) (by rfl) b5.whole Try.underlying38 rfl (by rw [HW.out.len]; exact sizeW15) ?_
        refine hK _ _ ?_
        clear hK K
        try simp only [Act.put, List.setIfInBounds_toArray, List.set_cons_zero, List.set_cons_succ]
        refine wpAny_ready (rs := [5]) (by kernel_rfl) (by simp) ?_
        refine AllReady.cons (o := ⟨some 38, _, _, _, _, none⟩) rfl (fun K hK => ?_) AllReady.nil
        go_simp
        refine (Hdo.out _ hrx).mono ?_
        rintro e' w7 ⟨W2, rv, rfl, hin2, hok2, he2, _, _, hB7⟩
        have hwl2 := wol hin2
        obtain ⟨l2, hl2⟩ : ∃ q, q = W2.l := ⟨_, rfl⟩
        rw [← hl2] at hwl2 ⊢
        have HW2 := hid hwl2
        have Hl2 := hid hl2
        have He2 := hid he2
        have b5 := b5.below hB7
        have hB := hB.trans (hB7.mono hB.size)
        clear hwl2 hl2 he2
        refine hK _ _ ?_
        clear hK K
        try simp only [Act.put, List.setIfInBounds_toArray, List.set_cons_zero, List.set_cons_succ]
        refine wpAny_take (i := 6) (oi := ⟨some 32, _, _, _, _, none⟩) (v := ?_) rfl (by kernel_rfl) (by kernel_rfl) (by kernel_rfl) (fun _ _ _ h => h) (Or.inl ⟨by rfl, ?_⟩) ?_
        rotate_left
        · intro w; go_simp; try with_reducible rfl
        try simp only [Act.put, List.setIfInBounds_toArray, List.set_cons_zero, List.set_cons_succ]
        refine wpAny_take (i := 7) (oi := ⟨some 39, _, _, _, _, none⟩) (v := ?_) rfl (by kernel_rfl) (by kernel_rfl) (by kernel_rfl) (fun _ _ _ h => h) (Or.inl ⟨by rfl, ?_⟩) ?_
        rotate_left
        · intro w; go_simp; try with_reducible rfl
        try simp only [Act.put, List.setIfInBounds_toArray, List.set_cons_zero, List.set_cons_succ]
        refine wpAny_take (i := 8) (oi := ⟨some 40, _, _, _, _, none⟩) (v := ?_) rfl (by kernel_rfl) (by kernel_rfl) (by kernel_rfl) (fun _ _ _ h => h) (Or.inl ⟨by rfl, ?_⟩) ?_
        rotate_left
        · intro w; go_simp; try with_reducible rfl
        try simp only [Act.put, List.setIfInBounds_toArray, List.set_cons_zero, List.set_cons_succ]
        refine wpAny_ready (rs := [9]) (by kernel_rfl) (by simp) ?_
        refine AllReady.cons (o := ⟨none, _, _, _, _, none⟩) rfl (fun K hK => ?_) AllReady.nil
        refine step_st 38 (.tmp 5) (.tmp 39) (by rfl) (by rfl) (by rfl) (f := 0) (by rfl) (l := l2) (by rfl) b5 (by rw [HW2.out.len, HW.out.len]; omega) (by rw [HW2.out.len]; exact sizeW15) HW2.out.one ?_
        intro w10 k5 hG10
        refine hK _ _ ?_
        clear hK K
        try simp only [Act.put, List.setIfInBounds_toArray, List.set_cons_zero, List.set_cons_succ]
        refine wpAny_done (by kernel_rfl) ?_ _
        refine NoPanic.normal ?_
        rw [set_all _ _ (by rw [HW2.out.len, HW.out.len])] at k5
        have hB := hB.grown hG10 hB.size (fun k hk => by injection hk with hk; omega)
        clear hc Hdo hrx hG10 hB7 b5
        have Hs2 : Hid (W2.s = ((i + 1 : Nat) : Int) + 1) := by show _ = _; have h1 := congrArg We.s He2.out; have h2 := do_s2 W.e x; have h3 : W.e.s = W.s := rfl; have h4 : W2.e.s = W2.s := rfl; have h5 := hsi.out; omega
        have Hd2 : Hid (idle W2.e l) := by show idle W2.e l; rw [He2.out]; exact Hidx.out
        rw [Hl2.out] at k5
        have Hk5 := hid k5
        clear k5
        go_wp2
        go_roundw
        case rel => exact ⟨i + 1, W2, by omega, by go_num, hid hin2, hid hok2, Hs2, Hd2, Hk5.out, hB⟩
        case measure => simp [intOf]; omega
      · have hI2 : ¬ (i : Int) < (m.length : Int) := by omega
        have hdo := fun X hr => edo15_any W l (.slice Al l.length cl) F X hwi.out hok.out hsb hr Hil.out Hl10.out
        rw [← Hlw.out] at hdo
        have Hdo := hid hdo
        clear hdo hsb
        go_wp2_with (refine wp_ld 38 (.tmp 5) rfl rfl rfl b5.whole Try.underlying38 rfl (by rw [HW.out.len]; exact sizeW15) ?_)
        refine (Hdo.out _ (Hl0.out.below hB)).mono ?_
        rintro e w5 ⟨W2, rv, rfl, hin2, hok2, he2, hc2, hrv, hB5⟩
        rw [do_idle hidl.out] at hrv
        obtain ⟨hs2, hf2, hv2, hu2, ha2⟩ := idle_e hidl.out he2
        have hc2 := hc2 hidl.out
        have b5 := b5.below hB5
        have hBs := hB
        have hB := hB.trans (hB5.mono hB.size)
        have hwl2 := wol hin2
        obtain ⟨l2, hl2⟩ : ∃ q, q = W2.l := ⟨_, rfl⟩
        rw [← hl2] at hwl2 ⊢
        have HW2 := hid hwl2
        obtain ⟨Ar, cr, rfl, _, _⟩ := wds_shape hrv
        have Hs2 := hid hs2
        have Hf2 := hid hf2
        have Hv2 := hid hv2
        have Hu2 := hid hu2
        have Ha2 := hid ha2
        have Hc2 := hid hc2
        clear hwl2 hl2 he2 hs2 hf2 hv2 hu2 ha2 hc2 hok2 Hdo hrv
        go_wp2_with (first | (refine wp_newst 38 7 (.tmp 46) rfl rfl rfl rfl rfl rfl zeroWo (l := l2) rfl (by rw [HW2.out.len]; exact len_zWo) (by rw [HW2.out.len]; exact sizeW15) HW2.out.one (by simp) ?_; intro w6 b7 hB6 hs6; refine wp_stop ?_))
        obtain ⟨g7, hg7⟩ : ∃ g, g = w5.heap.size := ⟨_, rfl⟩
        have h57 : g5 < g7 := by have := b5.lt; omega
        rw [← hg7] at b7 ⊢
        have b5 := b5.below hB6
        have hB := hB.trans (hB6.mono hB.size)
        have H5 := hid b5
        have H7 := hid b7
        have hlr := Hl0.out.below hB
        clear hg7 hs6 hB6 hB5 b5 b7 hBs
        refine wp_go ?_
        go_wp2
        go_loopw [50] (fun iv wr => ∃ (j : Nat), j ≤ l.length ∧ iv = .int .i64 j ∧ wr = w6) (fun i _ => l.length - (intOf i).toNat)
        case atStart => exact ⟨0, Nat.zero_le _, rfl, rfl⟩
        case round =>
          obtain ⟨j, hj, rfl, rfl⟩ := hrel
          by_cases hjl : j < l.length
          · have hI3 : (j : Int) < (l.length : Int) := by omega
            obtain ⟨r, hr⟩ : ∃ r, l[j]? = some r := ⟨_, List.getElem?_eq_getElem hjl⟩
            obtain ⟨gl, offl, hAl⟩ : ∃ gl offl, Al = some ⟨gl, offl, none⟩ := by
              obtain ⟨gl, offl, c', h⟩ := rqs_spot hlr (by omega)
              injection h with h _ _
              exact ⟨gl, offl, h⟩
            subst hAl
            obtain ⟨u, hru, _⟩ := rqs_el hlr hr
            have c0 : wr.cell? ⟨gl, offl + j * 7, none⟩ = some (.int .i64 r.c) := hru 0 _ rfl
            clear hr
            by_cases n1 : r.c < 0
            · go_wp2_with (first | refine wp_ixa 22 _ _ rfl rfl rfl (i := j) rfl Try.underlying22 hjl sizeQ15 ?_)
              go_ret
              exact ⟨rfl, hB⟩
            · by_cases n2 : 5 < r.c
              · go_wp2_with (first | refine wp_ixa 22 _ _ rfl rfl rfl (i := j) rfl Try.underlying22 hjl sizeQ15 ?_)
                go_ret
                exact ⟨rfl, hB⟩
              · go_wp2_with (first | refine wp_ixa 22 _ _ rfl rfl rfl (i := j) rfl Try.underlying22 hjl sizeQ15 ?_)
                go_roundw
                case rel => exact ⟨j + 1, by omega, by go_num, by trivial⟩
                case measure => simp [intOf]; omega
          · have hI3 : ¬ (j : Int) < (l.length : Int) := by omega
            have hL := Hlw.out
            have hwi2 := hwi.out
            have b5 := H5.out
            have b7 := H7.out
            have hrc5 := b5.range 6 (cvs W.c) HW.out.c
            have hrc7 := b7.range 6 (cvs W.c) (by rw [← Hc2.out]; exact HW2.out.c)
            have hra5 := b5.range 38 (ras W.a) (fun q v hv => HW.out.as hwi2.a.1 q v hv)
            have hra7 := b7.range 38 (ras W.a) (fun q v hv => by rw [← Ha2.out] at hv; exact HW2.out.as hin2.a.1 q v hv)
            have hv5 := b5.range 2 W.v.l HW.out.v
            have hv7 := b7.range 2 W.v.l (by rw [← Hv2.out]; exact HW2.out.v)
            have hu7 := b7.range 4 W.v.l (by rw [← Hu2.out]; exact HW2.out.u)
            have cs5 := b5.cellAt 0 _ HW.out.s
            have cs7 := b7.cellAt 0 _ HW2.out.s
            have cf5 := b5.cellAt 1 _ HW.out.f
            have cf7 := b7.cellAt 1 _ HW2.out.f
            rw [Hs2.out] at cs7
            rw [Hf2.out] at cf7
            have hsv := hsi.out
            have hwr : wrap64 W.s = W.s := IntWalk.wrap64_in _ (by omega)
            have lC := hid (show (cvs W.c).length = 32 by rw [len_cvs, hwi2.c.len])
            have lR := hid (show (ras W.a).length = 30 by rw [len_ras, hwi2.a.1])
            have heC : ∀ Y : World, (Op.equalIn 10000 31 (.agg (cvs W.c).toArray) (.agg (cvs W.c).toArray)).run Try.prog Y = .ok true Y := eqCse 9997 _ hwi2.c.len
            have heR : ∀ Y : World, (Op.equalIn 10000 36 (.agg (ras W.a).toArray) (.agg (ras W.a).toArray)).run Try.prog Y = .ok true Y := eqRse 9996 _ hwi2.a.1
            have heV : ∀ Y : World, (Op.equalIn 10000 28 (.agg W.v.l.toArray) (.agg W.v.l.toArray)).run Try.prog Y = .ok true Y := eqVe 9998 _
            obtain ⟨s, hs⟩ : ∃ s, s = W.s := ⟨_, rfl⟩
            obtain ⟨f, hf⟩ : ∃ f, f = W.f := ⟨_, rfl⟩
            obtain ⟨cc, hcc⟩ : ∃ cc, cc = cvs W.c := ⟨_, rfl⟩
            obtain ⟨aa, haa⟩ : ∃ aa, aa = ras W.a := ⟨_, rfl⟩
            obtain ⟨vv, hvv⟩ : ∃ vv, vv = W.v.l := ⟨_, rfl⟩
            have lV := hid (show vv.length = 2 by rw [hvv]; rfl)
            rw [← hs] at cs5 cs7 hwr
            rw [← hf] at cf5 cf7
            rw [← hcc] at hrc5 hrc7 lC heC
            rw [← haa] at hra5 hra7 lR heR
            rw [← hvv] at hv5 hv7 hu7 heV
            clear hs hf hcc haa hvv hsv hwi2 b5 b7 hL
            go_wp2_with (first | refine wp_ldg 31 (.tmp 72) (by rfl) rfl rfl hrc7 Try.underlying31 rfl (by rw [lC.out]; exact sizeCs15) ?_ | refine wp_ldg 31 (.tmp 74) (by rfl) rfl rfl hrc5 Try.underlying31 rfl (by rw [lC.out]; exact sizeCs15) ?_ | refine wp_ldg 36 (.tmp 79) (by rfl) rfl rfl hra7 Try.underlying36 rfl (by rw [lR.out]; exact sizeRs15) ?_ | refine wp_ldg 36 (.tmp 81) (by rfl) rfl rfl hra5 Try.underlying36 rfl (by rw [lR.out]; exact sizeRs15) ?_ | refine wp_ldg 28 (.tmp 86) (by rfl) rfl rfl hv7 Try.underlying28 rfl (by rw [lV.out]; exact sizeV15) ?_ | refine wp_ldg 28 (.tmp 88) (by rfl) rfl rfl hv5 Try.underlying28 rfl (by rw [lV.out]; exact sizeV15) ?_ | refine wp_ldg 28 (.tmp 108) (by rfl) rfl rfl hu7 Try.underlying28 rfl (by rw [lV.out]; exact sizeV15) ?_ | refine wp_ldg 28 (.tmp 110) (by rfl) rfl rfl hv5 Try.underlying28 rfl (by rw [lV.out]; exact sizeV15) ?_)
            go_ret
            exact ⟨rfl, hB⟩
end Go.Proofs.Ytfjgfaccfjdklaa
