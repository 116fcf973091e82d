/- A8: layer 15: ExecsReplies. -/
import Derived.Test.YtfjgfaccfjdklaaA7
import Derived.Test.YtfjgfaccfjdklaaAP
import Derived.BigQuiet
namespace Go.V
open Go.RowKit
end Go.V
namespace Go.Proofs.Ytfjgfaccfjdklaa
open Go.RowKit Go.V
def zRp15 : List Value := [.int .i64 0, .int .i64 0, .int .i64 0, .bool false, .int .i64 0]
theorem zeroRp15 : (Try.prog.info? 35).map (·.zero) = some (some (.agg zRp15.toArray)) := by kernel_rfl
theorem slRp15 : SlW Try.prog 40 35 zRp15 5 40 := .of Try.underlying40 (by kernel_rfl) rfl (by omega) (by omega)
def noC (q : List Rp) (c : Int) (j : Nat) : Bool := (q.take j).all (fun s => !decide (s.c = c))

theorem noC_succ {q : List Rp} {c : Int} {j : Nat} {s : Rp} (h : q[j]? = some s) : noC q c (j + 1) = (noC q c j && !decide (s.c = c)) := by
  unfold noC
  rw [List.take_add_one, h]
  simp
theorem noC_end {q : List Rp} {c : Int} (h : noC q c q.length = true) : ∀ s ∈ q, s.c ≠ c := by
  unfold noC at h
  rw [List.take_length] at h
  intro s hs
  have := List.all_eq_true.1 h s hs
  simpa using this
theorem drop_at {α : Type} {l : List α} {i : Nat} {x : α} (h : l[i]? = some x) : l.drop i = x :: l.drop (i + 1) := by
  have hi : i < l.length := by
    rcases Nat.lt_or_ge i l.length with h' | h'
    · exact h'
    · rw [List.getElem?_eq_none h'] at h; cases h
  rw [List.drop_eq_getElem_cons hi]
  rw [List.getElem?_eq_getElem hi] at h
  injection h with h
  rw [h]
theorem last_at {a : List Rp} {c : Nat} {p : Rp} (h : a[c]? = some p) : lastS a (c : Int) = p.s := by
  unfold lastS
  rw [Int.toNat_natCast, h]
  rfl
set_option maxRecDepth 100000 in
set_option maxHeartbeats 16000000 in
theorem execsReplies_law (m : List (List Rq)) (l : List Rq) (vm vl : Value) (G F : Nat → Prop) (w : World) (hm : Rd w G vm (bts m)) (hl : Rd w F vl (rqs l)) (hin : ∀ x ∈ m, ∀ r ∈ x, in64 r.a ∧ in64 r.b) (hil : ∀ r ∈ l, in64 r.a ∧ in64 r.b) :
    Calls Try.prog 5 #[vm, vl] w fun e w' => e = .returned (.bool true) ∧ Below w.heap.size w w' := by
  have hlo := fun X (h : Rd X G vm (bts m)) => long15_any m vm G X h
  obtain ⟨A, c, rfl⟩ := bts_shape hm
  obtain ⟨Al, cl, rfl⟩ := rqs_shape hl
  obtain ⟨Z, hZ⟩ : ∃ Z, Z = longB m := ⟨_, rfl⟩
  have HZ : Hid (Z = decide (30 < m.length ∨ ∃ x ∈ m, 10 < x.length)) := hZ
  rw [← hZ] at hlo
  have Hlo := hid hlo
  have Hm0 := hid hm
  have Hl0 := hid hl
  have Hin := hid hin
  have Hil := hid hil
  have hv15 : i64s (⟨0, 15⟩ : Vw).n ∧ (⟨0, 15⟩ : Vw).m < 65536 := ⟨by show i64s 0; unfold i64s; omega, by show 15 < 65536; omega⟩
  have Hfi := hid (fun X => efirst15_any ⟨0, 15⟩ X hv15)
  clear hlo hin hZ hil
  go_enter Try.func5, Try.ntmps5
  go_wp2_with (fail)
  refine (wakes15_any _).mono ?_
  rintro e w1 ⟨rfl, hB1⟩
  have hm := hm.below hB1
  go_wp2_with (fail)
  refine (Hlo.out _ hm).mono ?_
  rintro e w2 ⟨rfl, hB2⟩
  have hB := hB1.trans (hB2.mono hB1.size)
  clear hm hl hB1 hB2
  cases Z with
  | true =>
    clear HZ
    go_wp2
    go_ret
    exact ⟨rfl, hB⟩
  | false =>
    have h30 : m.length ≤ 30 := by
      have := of_decide_eq_false HZ.out.symm
      rcases Nat.lt_or_ge 30 m.length with h | h
      · exact absurd (.inl h) this
      · exact h
    have Hx10 : Hid (∀ x ∈ m, x.length ≤ 1000) := fun x hx => by
      have := of_decide_eq_false HZ.out.symm
      rcases Nat.lt_or_ge 10 x.length with h | h
      · exact absurd (.inr ⟨x, hx, h⟩) this
      · omega
    clear HZ Hlo
    by_cases h10 : 10 < l.length
    · have hI : (10 : Int) < (l.length : Int) := by omega
      go_wp2
      go_ret
      exact ⟨rfl, hB⟩
    have hI : ¬ (10 : Int) < (l.length : Int) := by omega
    have Hl10 := hid (show l.length ≤ 1000 by omega)
    have hbv := bldVw 15
    go_wp2_with (refine wp_bld 28 [(1, .const (.int .u16 15))] rfl rfl [(1, .int .u16 15)] rfl hbv ?_)
    refine (Hfi.out _).mono ?_
    rintro e w3 ⟨rfl, hB3⟩
    have hB := hB.trans (hB3.mono hB.size)
    have hwi := first_in (v := ⟨0, 15⟩) hv15
    have hwl := wol hwi
    obtain ⟨lw, hlw⟩ : ∃ q, q = (firstW ⟨0, 15⟩).l := ⟨_, rfl⟩
    rw [← hlw] at hwl ⊢
    have HL := hid hwl.len
    have HO := hid hwl.one
    have Hlw := hid hlw
    have Hwi := hid hwi
    clear hbv hwl hwi hlw Hfi hv15
    go_wp2_with (refine wp_newst 38 5 (.tmp 25) rfl rfl rfl rfl rfl rfl zeroWo (l := lw) rfl (by rw [HL.out]; exact len_zWo) (by rw [HL.out]; exact sizeW15) HO.out (by simp) ?_; intro w4 b5 hB4 hs4; refine wp_stop ?_)
    obtain ⟨g5, hg5⟩ : ∃ g, g = w3.heap.size := ⟨_, rfl⟩
    have hg5w : w.heap.size ≤ g5 := by rw [hg5]; exact hB.size
    rw [← hg5] at b5 ⊢
    have hB := hB.trans (hB4.mono hB.size)
    rw [Hlw.out] at b5
    have H5 := hid b5
    clear hg5 hs4 hB4 hB3 b5
    refine wp_go ?_
    go_wp2
    go_loopw [28] (fun iv wr => ∃ (i : Nat) (W : Wo), i ≤ m.length ∧ iv = .int .i64 i ∧ Hid (WoIn W) ∧ Hid (OKC W.c) ∧ Hid (W.s = (i : Int)) ∧ Blk wr g5 38 W.l ∧ Below w.heap.size w wr) (fun i _ => m.length - (intOf i).toNat)
    case atStart => exact ⟨0, firstW ⟨0, 15⟩, Nat.zero_le _, rfl, Hwi, hid okc_zero, hid rfl, H5.out, hB⟩
    case round =>
      clear H5 hB Hwi Hlw HL HO
      obtain ⟨i, W, hi, rfl, hwi, hok, hsi, b5, hB⟩ := hrel
      have hwl := wol hwi.out
      obtain ⟨lw2, hlw⟩ : ∃ q, q = W.l := ⟨_, rfl⟩
      rw [← hlw] at hwl b5
      have HW := hid hwl
      have Hlw := hid hlw
      clear hwl hlw
      have hsb : -4611686018427387904 ≤ W.s ∧ W.s ≤ 4611686018427387904 := by have := hsi.out; omega
      by_cases hlt : i < m.length
      · have hI2 : (i : Int) < (m.length : Int) := by omega
        have hmr := Hm0.out.below hB
        obtain ⟨x, hx⟩ : ∃ x, m[i]? = some x := ⟨_, List.getElem?_eq_getElem hlt⟩
        obtain ⟨g, off, Gx, cp, rfl, hc, hrx⟩ := bts_el hmr hx
        have hdo := fun X hr => edo15_any W x (.slice Gx x.length cp) G X hwi.out hok.out hsb hr (Hin.out x (List.mem_of_getElem? hx)) (Hx10.out x (List.mem_of_getElem? hx))
        rw [← Hlw.out] at hdo
        have Hdo := hid hdo
        clear hdo hx hsb hmr
        go_upto_region 9 with (fail)
        have hBd : Below wr.heap.size wr wr.drew := (Below.refl _ _).drew
        have b5 := b5.below hBd
        have hrx := hrx.below hBd
        have hB := hB.trans (hBd.mono hB.size)
        have hc : wr.drew.cell? ⟨g, off + i, none⟩ = some (.slice Gx x.length cp) := hc
        obtain ⟨wd, hwd⟩ : ∃ x, x = wr.drew := ⟨_, rfl⟩
        rw [← hwd] at b5 hrx hB hc
        refine wp_region_noPanic ?_
        refine wp_region_any (by kernel_rfl) ?_
        change wpAny _ _ _ _ _ _ _ (World.drew _)
        rw [← hwd]
        clear hwd hBd
        refine wpAny_take (i := 1) (oi := ⟨some 33, _, _, _, _, none⟩) (v := ?_) rfl (by kernel_rfl) (by kernel_rfl) (by kernel_rfl) (fun _ _ _ h => h) (Or.inl ⟨by rfl, ?_⟩) ?_
        rotate_left
        · intro w; go_simp; try with_reducible rfl
        try simp only [Act.put, List.setIfInBounds_toArray, List.set_cons_zero, List.set_cons_succ]
        refine wpAny_take (i := 2) (oi := ⟨some 34, _, _, _, _, none⟩) (v := ?_) rfl (by kernel_rfl) (by kernel_rfl) (by kernel_rfl) (fun _ _ _ h => h) (Or.inl ⟨by rfl, ?_⟩) ?_
        rotate_left
        · intro w; go_simp; try with_reducible rfl
        try simp only [Act.put, List.setIfInBounds_toArray, List.set_cons_zero, List.set_cons_succ]
        refine wpAny_take (i := 3) (oi := ⟨some 35, _, _, _, _, none⟩) (v := ?_) rfl (by kernel_rfl) (by kernel_rfl) (by kernel_rfl) (fun _ _ _ h => h) (Or.inl ⟨by rfl, ?_⟩) ?_
        rotate_left
        · intro w; go_simp; try with_reducible rfl
        try simp only [Act.put, List.setIfInBounds_toArray, List.set_cons_zero, List.set_cons_succ]
        refine wpAny_ready (rs := [0, 4]) (by kernel_rfl) (by simp) ?_
        refine AllReady.cons (o := ⟨some 32, .load 38 (.tmp 5), _, _, _, none⟩) rfl (fun K hK => ?_) ?_
        · refine step_ld 38 (.tmp 5) (by rfl) (by rfl) (by rfl) b5.whole Try.underlying38 rfl (by rw [HW.out.len]; exact sizeW15) ?_
          refine hK _ _ ?_
          clear hK K
          try simp only [Act.put, List.setIfInBounds_toArray, List.set_cons_zero, List.set_cons_succ]
          refine wpAny_ready (rs := [4]) (by kernel_rfl) (by simp) ?_
          refine AllReady.cons (o := ⟨some 36, .load 22 (.tmp 35), _, _, _, none⟩) rfl (fun K hK => ?_) AllReady.nil
          refine step_ld1 22 (.tmp 35) (by rfl) (by rfl) (by rfl) hc Try.isAgg22 ?_
          refine hK _ _ ?_
          clear hK K
          try simp only [Act.put, List.setIfInBounds_toArray, List.set_cons_zero, List.set_cons_succ]
          refine wpAny_ready (rs := [5]) (by kernel_rfl) (by simp) ?_
          refine AllReady.cons (o := ⟨some 37, _, _, _, _, none⟩) rfl (fun K hK => ?_) AllReady.nil
          go_simp
          refine (Hdo.out _ hrx).mono ?_
          rintro e' w7 ⟨W2, rv, rfl, hin2, hok2, he2, _, _, hB7⟩
          have hwl2 := wol hin2
          obtain ⟨l2, hl2⟩ : ∃ q, q = W2.l := ⟨_, rfl⟩
          rw [← hl2] at hwl2 ⊢
          have HW2 := hid hwl2
          have Hl2 := hid hl2
          have He2 := hid he2
          have b5 := b5.below hB7
          have hB := hB.trans (hB7.mono hB.size)
          clear hwl2 hl2 he2
          refine hK _ _ ?_
          clear hK K
          try simp only [Act.put, List.setIfInBounds_toArray, List.set_cons_zero, List.set_cons_succ]
          refine wpAny_take (i := 6) (oi := ⟨some 31, _, _, _, _, none⟩) (v := ?_) rfl (by kernel_rfl) (by kernel_rfl) (by kernel_rfl) (fun _ _ _ h => h) (Or.inl ⟨by rfl, ?_⟩) ?_
          rotate_left
          · intro w; go_simp; try with_reducible rfl
          try simp only [Act.put, List.setIfInBounds_toArray, List.set_cons_zero, List.set_cons_succ]
          refine wpAny_take (i := 7) (oi := ⟨some 38, _, _, _, _, none⟩) (v := ?_) rfl (by kernel_rfl) (by kernel_rfl) (by kernel_rfl) (fun _ _ _ h => h) (Or.inl ⟨by rfl, ?_⟩) ?_
          rotate_left
          · intro w; go_simp; try with_reducible rfl
          try simp only [Act.put, List.setIfInBounds_toArray, List.set_cons_zero, List.set_cons_succ]
          refine wpAny_take (i := 8) (oi := ⟨some 39, _, _, _, _, none⟩) (v := ?_) rfl (by kernel_rfl) (by kernel_rfl) (by kernel_rfl) (fun _ _ _ h => h) (Or.inl ⟨by rfl, ?_⟩) ?_
          rotate_left
          · intro w; go_simp; try with_reducible rfl
          try simp only [Act.put, List.setIfInBounds_toArray, List.set_cons_zero, List.set_cons_succ]
          refine wpAny_ready (rs := [9]) (by kernel_rfl) (by simp) ?_
          refine AllReady.cons (o := ⟨none, _, _, _, _, none⟩) rfl (fun K hK => ?_) AllReady.nil
          refine step_st 38 (.tmp 5) (.tmp 38) (by rfl) (by rfl) (by rfl) (f := 0) (by rfl) (l := l2) (by rfl) b5 (by rw [HW2.out.len, HW.out.len]; omega) (by rw [HW2.out.len]; exact sizeW15) HW2.out.one ?_
          intro w10 k5 hG10
          refine hK _ _ ?_
          clear hK K
          try simp only [Act.put, List.setIfInBounds_toArray, List.set_cons_zero, List.set_cons_succ]
          refine wpAny_done (by kernel_rfl) ?_ _
          refine NoPanic.normal ?_
          rw [set_all _ _ (by rw [HW2.out.len, HW.out.len])] at k5
          have hB := hB.grown hG10 hB.size (fun k hk => by injection hk with hk; omega)
          clear hc Hdo hrx hG10 hB7 b5
          have Hs2 : Hid (W2.s = ((i + 1 : Nat) : Int)) := by show _ = _; have h1 := congrArg We.s He2.out; have h2 := do_s2 W.e x; have h3 : W.e.s = W.s := rfl; have h4 : W2.e.s = W2.s := rfl; have h5 := hsi.out; omega
          rw [Hl2.out] at k5
          have Hk5 := hid k5
          clear k5
          go_wp2
          go_roundw
          case rel => exact ⟨i + 1, W2, by omega, by go_num, hid hin2, hid hok2, Hs2, Hk5.out, hB⟩
          case measure => simp [intOf]; omega
        refine AllReady.cons (o := ⟨some 36, .load 22 (.tmp 35), _, _, _, none⟩) rfl (fun K hK => ?_) AllReady.nil
        refine step_ld1 22 (.tmp 35) (by rfl) (by rfl) (by rfl) hc Try.isAgg22 ?_
        refine hK _ _ ?_
        clear hK K
        try simp only [Act.put, List.setIfInBounds_toArray, List.set_cons_zero, List.set_cons_succ]
        refine wpAny_ready (rs := [0]) (by kernel_rfl) (by simp) ?_
        refine AllReady.cons (o := ⟨some 32, .load 38 (.tmp 5), _, _, _, none⟩) rfl (fun K hK => ?_) AllReady.nil
        refine step_ld 38 (.tmp 5) (by rfl) (by rfl) (by rfl) b5.whole Try.underlying38 rfl (by rw [HW.out.len]; exact sizeW15) ?_
        refine hK _ _ ?_
        clear hK K
        try simp only [Act.put, List.setIfInBounds_toArray, List.set_cons_zero, List.set_cons_succ]
        refine wpAny_ready (rs := [5]) (by kernel_rfl) (by simp) ?_
        refine AllReady.cons (o := ⟨some 37, _, _, _, _, none⟩) rfl (fun K hK => ?_) AllReady.nil
        go_simp
        refine (Hdo.out _ hrx).mono ?_
        rintro e' w7 ⟨W2, rv, rfl, hin2, hok2, he2, _, _, hB7⟩
        have hwl2 := wol hin2
        obtain ⟨l2, hl2⟩ : ∃ q, q = W2.l := ⟨_, rfl⟩
        rw [← hl2] at hwl2 ⊢
        have HW2 := hid hwl2
        have Hl2 := hid hl2
        have He2 := hid he2
        have b5 := b5.below hB7
        have hB := hB.trans (hB7.mono hB.size)
        clear hwl2 hl2 he2
        refine hK _ _ ?_
        clear hK K
        try simp only [Act.put, List.setIfInBounds_toArray, List.set_cons_zero, List.set_cons_succ]
        refine wpAny_take (i := 6) (oi := ⟨some 31, _, _, _, _, none⟩) (v := ?_) rfl (by kernel_rfl) (by kernel_rfl) (by kernel_rfl) (fun _ _ _ h => h) (Or.inl ⟨by rfl, ?_⟩) ?_
        rotate_left
        · intro w; go_simp; try with_reducible rfl
        try simp only [Act.put, List.setIfInBounds_toArray, List.set_cons_zero, List.set_cons_succ]
        refine wpAny_take (i := 7) (oi := ⟨some 38, _, _, _, _, none⟩) (v := ?_) rfl (by kernel_rfl) (by kernel_rfl) (by kernel_rfl) (fun _ _ _ h => h) (Or.inl ⟨by rfl, ?_⟩) ?_
        rotate_left
        · intro w; go_simp; try with_reducible rfl
        try simp only [Act.put, List.setIfInBounds_toArray, List.set_cons_zero, List.set_cons_succ]
        refine wpAny_take (i := 8) (oi := ⟨some 39, _, _, _, _, none⟩) (v := ?_) rfl (by kernel_rfl) (by kernel_rfl) (by kernel_rfl) (fun _ _ _ h => h) (Or.inl ⟨by rfl, ?_⟩) ?_
        rotate_left
        · intro w; go_simp; try with_reducible rfl
        try simp only [Act.put, List.setIfInBounds_toArray, List.set_cons_zero, List.set_cons_succ]
        refine wpAny_ready (rs := [9]) (by kernel_rfl) (by simp) ?_
        refine AllReady.cons (o := ⟨none, _, _, _, _, none⟩) rfl (fun K hK => ?_) AllReady.nil
        refine step_st 38 (.tmp 5) (.tmp 38) (by rfl) (by rfl) (by rfl) (f := 0) (by rfl) (l := l2) (by rfl) b5 (by rw [HW2.out.len, HW.out.len]; omega) (by rw [HW2.out.len]; exact sizeW15) HW2.out.one ?_
        intro w10 k5 hG10
        refine hK _ _ ?_
        clear hK K
        try simp only [Act.put, List.setIfInBounds_toArray, List.set_cons_zero, List.set_cons_succ]
        refine wpAny_done (by kernel_rfl) ?_ _
        refine NoPanic.normal ?_
        rw [set_all _ _ (by rw [HW2.out.len, HW.out.len])] at k5
        have hB := hB.grown hG10 hB.size (fun k hk => by injection hk with hk; omega)
        clear hc Hdo hrx hG10 hB7 b5
        have Hs2 : Hid (W2.s = ((i + 1 : Nat) : Int)) := by show _ = _; have h1 := congrArg We.s He2.out; have h2 := do_s2 W.e x; have h3 : W.e.s = W.s := rfl; have h4 : W2.e.s = W2.s := rfl; have h5 := hsi.out; omega
        rw [Hl2.out] at k5
        have Hk5 := hid k5
        clear k5
        go_wp2
        go_roundw
        case rel => exact ⟨i + 1, W2, by omega, by go_num, hid hin2, hid hok2, Hs2, Hk5.out, hB⟩
        case measure => simp [intOf]; omega
      · have hI2 : ¬ (i : Int) < (m.length : Int) := by omega
        have hdo := fun X hr => edo15_any W l (.slice Al l.length cl) F X hwi.out hok.out hsb hr Hil.out Hl10.out
        rw [← Hlw.out] at hdo
        have Hdo := hid hdo
        clear hdo hsb
        go_wp2_with (refine wp_ld 38 (.tmp 5) rfl rfl rfl b5.whole Try.underlying38 rfl (by rw [HW.out.len]; exact sizeW15) ?_)
        refine (Hdo.out _ (Hl0.out.below hB)).mono ?_
        rintro e w5 ⟨W2, rv, rfl, hin2, _, he2, _, hrv, hB5⟩
        have hout := do_out W.e l hwi.out.a.1
        have hsub := hout.sub
        have hkk := hout.k
        have hla := hout.last
        have hol := out_len hout
        have hs2 : W2.s = W.s + 1 := congrArg We.s he2
        have hea : W2.a = (doW W.e l).1.a := congrArg We.a he2
        rw [← hea] at hla
        rw [show W.e.s = W.s from rfl, ← hs2] at hkk
        obtain ⟨o, ho⟩ : ∃ o, o = (doW W.e l).2 := ⟨_, rfl⟩
        rw [← ho] at hsub hkk hla hol hrv
        have b5 := b5.below hB5
        have hB := hB.trans (hB5.mono hB.size)
        have hwl2 := wol hin2
        obtain ⟨l2, hl2⟩ : ∃ q, q = W2.l := ⟨_, rfl⟩
        rw [← hl2] at hwl2 ⊢
        have HW2 := hid hwl2
        obtain ⟨Ar, cr, rfl, _, _⟩ := wds_shape hrv
        have Hsub := hid hsub
        have Hkk := hid hkk
        have Hla := hid hla
        have ho10 : o.length ≤ 10 := by omega
        have Hin2 := hid hin2
        clear hwl2 hl2 he2 hs2 hea ho hout Hdo hsub hkk hla hin2
        go_wp2_with (first | (refine wp_newst 38 7 (.tmp 45) rfl rfl rfl rfl rfl rfl zeroWo (l := l2) rfl (by rw [HW2.out.len]; exact len_zWo) (by rw [HW2.out.len]; exact sizeW15) HW2.out.one (by simp) ?_; intro w6 b7 hB6 hs6; refine wp_stop ?_))
        obtain ⟨g7, hg7⟩ : ∃ g, g = w5.heap.size := ⟨_, rfl⟩
        have h57 : g5 < g7 := by have := b5.lt; omega
        rw [← hg7] at b7 ⊢
        have b5 := b5.below hB6
        have hB := hB.trans (hB6.mono hB.size)
        have hrv := hrv.below hB6
        have H5 := hid b5
        have H7 := hid b7
        have Hrv := hid hrv
        have Hlr := hid (Hl0.out.below hB)
        have HB := hid hB
        clear hg7 hs6 hB6 hB5 b5 b7 hrv
        refine wp_go ?_
        go_wp2
        go_loopw [9, 49] (fun av iv wr => ∃ (i at_ : Nat), i ≤ o.length ∧ at_ ≤ l.length ∧ iv = .int .i64 i ∧ av = .int .i64 at_ ∧ Hid (((o.drop i).map kR).Sublist ((l.drop at_).map kQ)) ∧ Below w6.heap.size w6 wr) (fun _ i _ => o.length - (intOf i).toNat)
        case atStart => exact ⟨0, 0, Nat.zero_le _, Nat.zero_le _, rfl, rfl, Hsub, Below.refl _ _⟩
        case round =>
          clear Hsub hB hsi hlt hI2 hi
          obtain ⟨i, k, hi, hk, rfl, rfl, hsub, hBr⟩ := hrel
          by_cases hlt : i < o.length
          · have hI3 : (i : Int) < (o.length : Int) := by omega
            obtain ⟨r, hr⟩ : ∃ r, o[i]? = some r := ⟨_, List.getElem?_eq_getElem hlt⟩
            have hrr := Hrv.out.below hBr
            obtain ⟨g, off, cs, hAr, _, hrg, hel⟩ := wd_el hrr hr
            subst hAr
            have hcs := rp_open hel
            subst hcs
            have hd := drop_at hr
            obtain ⟨q, hq⟩ : ∃ q, q = o.drop (i + 1) := ⟨_, rfl⟩
            have hsub : Hid (((r :: q).map kR).Sublist ((l.drop k).map kQ)) := by have h := hsub.out; rw [hd, ← hq] at h; exact h
            have hkr := Hkk.out r (List.mem_of_getElem? hr)
            have hlast : Hid ((∀ s ∈ q, s.c ≠ r.c) → W2.a[r.c.toNat]? = some r) := fun h => Hla.out (o.take i) r q (by rw [hq, ← hd]; exact (List.take_append_drop i o).symm) h
            have hql : q.length ≤ 10 := by rw [hq, List.length_drop]; omega
            have Hq := hid hq
            have Hkr := hid hkr
            clear hd hq hkr hel hr
            have hBn : Below wr.heap.size wr (wr.alloc (.cells zRp15.toArray 35)) := (Below.refl _ _).alloc (Nat.le_refl _) _
            have z11 := Blk.new' wr 35 zRp15
            obtain ⟨wa, hwa⟩ : ∃ x, x = wr.alloc (.cells zRp15.toArray 35) := ⟨_, rfl⟩
            rw [← hwa] at hBn z11
            go_wp2_with (first | refine wp_ixa 40 _ _ rfl rfl rfl (i := i) rfl Try.underlying40 hlt sizeR15 ?_ | refine wp_ld 35 (.tmp 52) rfl rfl rfl hrg Try.underlying35 rfl sizeR15 ?_ | (refine wp_new 35 rfl rfl zeroRp15 ?_; refine wp_stop ?_))
            rw [← hwa]
            clear hwa
            obtain ⟨g11, hg11⟩ : ∃ g, g = wr.heap.size := ⟨_, rfl⟩
            rw [← hg11] at z11 ⊢
            have hg11w : w6.heap.size ≤ g11 := by rw [hg11]; exact hBr.size
            have hBa := hBr.trans (hBn.mono hBr.size)
            refine wp_go ?_
            go_wp2_with (first | (refine wp_st 35 (.tmp 11) (.tmp 53) rfl rfl rfl (f := 0) rfl (l := r.l) rfl z11 (by show 0 + 5 ≤ 5; omega) sizeR15 (one_rp _) ?_; intro wb k11 G11; refine wp_stop ?_))
            rw [set_all zRp15 r.l rfl] at k11
            have hBb := hBa.grown G11 hBa.size (by intro k hk; injection hk with hk; omega)
            have H11 := hid k11
            clear z11 G11 hBa hBn hrg hrr hBr k11 hg11 hg11w
            refine wp_go ?_
            go_wp2
            go_loopw [9] (fun av wr => ∃ (k : Nat), k ≤ l.length ∧ av = .int .i64 k ∧ Hid (((r :: q).map kR).Sublist ((l.drop k).map kQ)) ∧ Below wb.heap.size wb wr) (fun a _ => l.length - (intOf a).toNat)
            case atStart => exact ⟨k, hk, rfl, hsub, Below.refl _ _⟩
            case round =>
              clear hsub hk
              obtain ⟨k, hk, rfl, hsub, hBr⟩ := hrel
              have hkl : k < l.length := by
                have := hsub.out.length_le
                simp only [List.length_map, List.length_cons, List.length_drop] at this
                omega
              have hI4 : (k : Int) < (l.length : Int) := by omega
              obtain ⟨p, hp⟩ : ∃ p, l[k]? = some p := ⟨_, List.getElem?_eq_getElem hkl⟩
              have hdk := drop_at hp
              have hBl := hBb.trans (hBr.mono hBb.size)
              have hlr := Hlr.out.below hBl
              obtain ⟨gl, offl, hAl⟩ : ∃ gl offl, Al = some ⟨gl, offl, none⟩ := by
                obtain ⟨gl, offl, c', h⟩ := rqs_spot hlr (by omega)
                injection h with h _ _
                exact ⟨gl, offl, h⟩
              subst hAl
              obtain ⟨u, hru, _⟩ := rqs_el hlr hp
              have p0 : wr.cell? ⟨gl, offl + k * 7, none⟩ = some (.int .i64 p.c) := hru 0 _ rfl
              have p1 : wr.cell? ⟨gl, offl + k * 7 + 1, none⟩ = some (.int .i64 p.s) := hru 1 _ rfl
              have k11 := H11.out.below hBr
              have r0 := k11.cellAt 0 _ rfl
              have r1 := k11.cellAt 1 _ rfl
              have hon : Hid (kQ p ≠ kR r → ((r :: q).map kR).Sublist ((l.drop (k + 1)).map kQ)) := fun hne => by have h := hsub.out; rw [hdk] at h; exact sub_on h hne
              have hhit : Hid (kQ p = kR r → (q.map kR).Sublist ((l.drop (k + 1)).map kQ)) := fun he => by have h := hsub.out; rw [hdk] at h; simp only [List.map_cons, he] at h; exact sub_hit h
              clear hru hlr hp hdk hBl
              obtain ⟨ci, hci⟩ : ∃ ci : Nat, r.c = (ci : Int) := ⟨r.c.toNat, by have := Hkr.out; omega⟩
              have Hci := hid hci
              have rc : wr.cell? ⟨g11, 0, none⟩ = some (.int .i64 (ci : Int)) := by rw [← hci]; exact r0
              clear r0
              have hci6 : ci < 6 := by have := Hkr.out; omega
              clear hci
              by_cases n1 : p.c = (ci : Int)
              · by_cases n2 : p.s = r.s
                · have hit := hid (hhit.out (by unfold kQ kR; rw [n1, n2, Hci.out]))
                  rw [n1] at p0
                  rw [n2] at p1
                  clear hon hhit n1 n2
                  have hnl : ¬ (k : Int) = (l.length : Int) := by omega
                  have dnl : ((k : Int) == (l.length : Int)) = false := beq_eq_false_iff_ne.2 hnl
                  obtain ⟨pa, hpa⟩ : ∃ pa, W.a[ci]? = some pa := ⟨_, List.getElem?_eq_getElem (by rw [hwi.out.a.1]; exact hci6)⟩
                  have hle : ¬ r.s ≤ pa.s := by have h := Hkr.out.2.2.2; rw [Hci.out, show lastS W.e.a (ci : Int) = pa.s from last_at hpa] at h; omega
                  have dle : decide (r.s ≤ pa.s) = false := decide_eq_false hle
                  have hBl := hBb.trans (hBr.mono hBb.size)
                  have q5 : wr.cell? ⟨g5, 38 + ci * 5 + 1, none⟩ = some (.int .i64 pa.s) := (H5.out.below hBl).cellAt _ _ (HW.out.a ci pa hpa 1 _ rfl)
                  have q7 : wr.cell? ⟨g7, 0, none⟩ = some (.int .i64 W2.s) := (H7.out.below hBl).cellAt 0 _ HW2.out.s
                  have r2 : wr.cell? ⟨g11, 2, none⟩ = some (.int .i64 W2.s) := by rw [← Hkr.out.1]; exact k11.cellAt 2 _ rfl
                  have hI6 : (ci : Int) < 6 := by omega
                  obtain ⟨xs, hxs⟩ : ∃ xs, xs = W2.s := ⟨_, rfl⟩
                  rw [← hxs] at q7 r2
                  clear hxs hpa
                  go_upto_region 16 with (fail)
                  go_quiet (fail)
                  go_upto_region 18 with (fail)
                  go_quiet (fail)
                  have hwi1 : IntKind.i64.wrap ((i : Int) + 1) = (i : Int) + 1 := IntWalk.i64_in _ (by omega)
                  obtain ⟨Aq, cq, hcut, hrq⟩ : ∃ Aq cq, (∀ Y, (Instr.slice 40 (.slice (some ⟨g, off, none⟩) o.length cr) (some (.int .i64 ((i : Int) + 1))) none none).run Try.prog Y = .ok (.slice Aq q.length cq) Y) ∧ Rd w6 (fun _ => True) (.slice Aq q.length cq) (wds rpD q) := by
                    have h := Rd.wdcut_l slRp15 (Hrv.out.weak (F' := fun _ => True) (fun _ _ _ => trivial)) ((i : Int) + 1) (by omega) (by omega)
                    rw [show ((i : Int) + 1).toNat = i + 1 from by omega, ← Hq.out] at h
                    exact h
                  have Hk1 : k + 1 ≤ l.length := hkl
                  clear p0 p1 r1 r2 q5 q7 rc hle dle hnl dnl k11
                  go_wp2
                  go_loopw [12, 109] (fun bv jv wr => ∃ j : Nat, j ≤ q.length ∧ jv = .int .i64 j ∧ bv = .bool (noC q (ci : Int) j) ∧ Below wb.heap.size wb wr) (fun _ j _ => q.length - (intOf j).toNat)
                  case atStart => exact ⟨0, Nat.zero_le _, rfl, rfl, by first | exact hBr | exact hBr.drew | exact bel_drewN hBr _⟩
                  case round =>
                    clear hBr hBl hcut
                    obtain ⟨j, hj, rfl, rfl, hBr⟩ := hrel
                    have hBl := hBb.trans (hBr.mono hBb.size)
                    have k11 := H11.out.below hBr
                    by_cases hjq : j < q.length
                    · have hI7 : (j : Int) < (q.length : Int) := by omega
                      obtain ⟨s, hs⟩ : ∃ s, q[j]? = some s := ⟨_, List.getElem?_eq_getElem hjq⟩
                      obtain ⟨gq, oq, cs, hAq, _, hrg, hel⟩ := wd_el (hrq.below hBl) hs
                      subst hAq
                      have hcs := rp_open hel
                      subst hcs
                      have hsucc := hid (noC_succ (c := (ci : Int)) hs)
                      have rc : wr.cell? ⟨g11, 0, none⟩ = some (.int .i64 (ci : Int)) := by rw [← Hci.out]; exact k11.cellAt 0 _ rfl
                      obtain ⟨B, hBq⟩ : ∃ B, B = noC q (ci : Int) j := ⟨_, rfl⟩
                      rw [← hBq] at hsucc ⊢
                      clear hBq hel hs k11
                      go_wp2_with (first | refine wp_ixa 40 (.tmp 107) (.tmp 109) rfl rfl rfl (i := j) rfl Try.underlying40 hjq sizeR15 ?_ | refine wp_ld 35 (.tmp 111) rfl rfl rfl hrg Try.underlying35 rfl sizeR15 ?_ | (refine wp_newst 35 14 (.tmp 112) rfl rfl rfl rfl rfl rfl zeroRp15 (l := s.l) rfl rfl sizeR15 (one_rp _) (by simp [Act.put]) ?_; intro wc b14 hBc hsc; refine wp_stop ?_))
                      have hBr := hBr.trans (hBc.mono hBr.size)
                      have rc : wc.cell? ⟨g11, 0, none⟩ = some (.int .i64 (ci : Int)) := (hBc.cell (lt_of_cell rc)).trans rc
                      obtain ⟨g14, hg14⟩ : ∃ g, g = wr.heap.size := ⟨_, rfl⟩
                      rw [← hg14] at b14 ⊢
                      have s0 : wc.cell? ⟨g14, 0, none⟩ = some (.int .i64 s.c) := b14.cellAt 0 _ rfl
                      clear b14 hBc hsc hg14
                      refine wp_go ?_
                      cases B with
                      | false =>
                        have hz := hid (show noC q (ci : Int) (j + 1) = false by rw [hsucc.out]; rfl)
                        go_wp2
                        go_roundw
                        case rel => exact ⟨j + 1, by omega, by go_num, by rw [hz.out], hBr⟩
                        case measure => simp [intOf]; omega
                      | true =>
                        by_cases he : s.c = (ci : Int)
                        · have hz := hid (show noC q (ci : Int) (j + 1) = false by rw [hsucc.out, he]; simp)
                          rw [he] at s0
                          clear he hsucc
                          go_wp2
                          go_roundw
                          case rel => exact ⟨j + 1, by omega, by go_num, by rw [hz.out], hBr⟩
                          case measure => simp [intOf]; omega
                        · have hz := hid (show noC q (ci : Int) (j + 1) = true by rw [hsucc.out, decide_eq_false he]; rfl)
                          have de := hid (bne_iff_ne.2 he)
                          clear hsucc he
                          go_wp2
                          go_roundw
                          case rel => exact ⟨j + 1, by omega, by go_num, by rw [hz.out, de.out], hBr⟩
                          case measure => simp [intOf]; omega
                    · have hj' : j = q.length := by omega
                      subst hj'
                      have hI7 : ¬ (q.length : Int) < (q.length : Int) := by omega
                      obtain ⟨B, hBq⟩ : ∃ B, B = noC q (ci : Int) q.length := ⟨_, rfl⟩
                      rw [← hBq]
                      have HBq := hid hBq
                      clear hBq
                      cases B with
                      | false =>
                        go_upto_region 27 with (fail)
                        go_quiet (fail)
                        go_wp2
                        go_roundw
                        case rel => exact ⟨i + 1, k + 1, by omega, by omega, by go_num, by go_num, by rw [← Hq.out]; exact hit, by first | exact hBl | exact hBl.drew | exact bel_drewN hBl _⟩
                        case measure => simp [intOf]; omega
                      | true =>
                        have hla := hlast.out (fun s hs => by rw [Hci.out]; exact noC_end HBq.out.symm s hs)
                        rw [Hci.out, Int.toNat_natCast] at hla
                        have b7 := H7.out.below hBl
                        have y0 : wr.cell? ⟨g7, 38 + ci * 5, none⟩ = some (.int .i64 (ci : Int)) := by rw [← Hci.out]; exact b7.cellAt _ _ (HW2.out.a ci r hla 0 _ rfl)
                        have y1 : wr.cell? ⟨g7, 38 + ci * 5 + 1, none⟩ = some (.int .i64 r.s) := b7.cellAt _ _ (HW2.out.a ci r hla 1 _ rfl)
                        have y2 : wr.cell? ⟨g7, 38 + ci * 5 + 2, none⟩ = some (.int .i64 r.k) := b7.cellAt _ _ (HW2.out.a ci r hla 2 _ rfl)
                        have y3 : wr.cell? ⟨g7, 38 + ci * 5 + 3, none⟩ = some (.bool r.o) := b7.cellAt _ _ (HW2.out.a ci r hla 3 _ rfl)
                        have y4 : wr.cell? ⟨g7, 38 + ci * 5 + 4, none⟩ = some (.int .i64 r.n) := b7.cellAt _ _ (HW2.out.a ci r hla 4 _ rfl)
                        have r0 : wr.cell? ⟨g11, 0, none⟩ = some (.int .i64 (ci : Int)) := by rw [← Hci.out]; exact k11.cellAt 0 _ rfl
                        have r1 := k11.cellAt 1 _ rfl
                        have r2 := k11.cellAt 2 _ rfl
                        have r3 := k11.cellAt 3 _ rfl
                        have r4 := k11.cellAt 4 _ rfl
                        clear hla b7 k11
                        go_upto_region 27 with (fail)
                        go_quiet (fail)
                        go_wp2
                        go_roundw
                        case rel => exact ⟨i + 1, k + 1, by omega, by omega, by go_num, by go_num, by rw [← Hq.out]; exact hit, by first | exact hBl | exact hBl.drew | exact bel_drewN hBl _⟩
                        case measure => simp [intOf]; omega
                · have on := hid (hon.out (fun h => n2 (congrArg Prod.snd h)))
                  have d2 : decide (p.s = r.s) = false := decide_eq_false n2
                  rw [n1] at p0
                  clear hon hhit n1
                  go_upto_region 16 with (fail)
                  go_quiet (fail)
                  go_wp2
                  go_roundw
                  case rel => exact ⟨k + 1, by omega, by go_num, on, by first | exact hBr | exact hBr.drew | exact bel_drewN hBr _⟩
                  case measure => simp [intOf]; omega
              · have on := hid (hon.out (fun h => n1 ((congrArg Prod.fst h).trans Hci.out)))
                have d1 : decide (p.c = (ci : Int)) = false := decide_eq_false n1
                clear hon hhit
                go_upto_region 16 with (fail)
                go_quiet (fail)
                go_wp2
                go_roundw
                case rel => exact ⟨k + 1, by omega, by go_num, on, by first | exact hBr | exact hBr.drew | exact bel_drewN hBr _⟩
                case measure => simp [intOf]; omega
          · have hI3 : ¬ (i : Int) < (o.length : Int) := by omega
            have hI4 : (o.length : Int) ≤ (l.length : Int) := by omega
            go_wp2
            go_ret
            exact ⟨rfl, HB.out.trans (hBr.mono HB.out.size)⟩
end Go.Proofs.Ytfjgfaccfjdklaa
