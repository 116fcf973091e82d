/- B5: layer 16: QueueActs. -/
import Derived.Test.YtnpgloeldoiekaaB4
import Derived.Test.YtnpgloeldoiekaaQS
namespace Go.Proofs.Ytnpgloeldoiekaa
open Go.RowKit Go.V
theorem undLast16 : Try.prog.underlying 37 = some (.array 6 36) := by kernel_rfl
theorem sizeLast16 : (Try.prog.info? 37).map (·.size) = some 30 := by kernel_rfl
theorem qx_not {w : World} {v : Value} {M : Nat → Prop} {l : List Rq} (h : QX w v M l) {b : Nat} (hb : w.heap.size ≤ b) : ¬ M b := fun h' => by have := h.lt b h'; omega
theorem rqs_nil {w : World} {F : Nat → Prop} : Rd w F (.slice none 0 0) (rqs []) := by
  unfold rqs Rd
  exact ⟨none, 0, rfl, Nat.le_refl _, by simp [maxLen], fun _ => rfl, fun h => absurd rfl h⟩
theorem rd_m {w w' : World} {M : Nat → Prop} {v x : Value} {l : List Rq} {d : Dat} (h : QX w v M l) (hx : Rd w' (fun b => ¬ M b ∨ w.heap.size ≤ b) x d) : Rd w' (fun b => ¬ M b) x d :=
  hx.weak (fun b _ hF => by rcases hF with hF | hF; exact hF; exact qx_not h hF)
theorem rd_m3 {w w' : World} {M : Nat → Prop} {v x : Value} {l : List Rq} {d : Dat} {base : Nat} (h : QX w v M l) (hM : ∀ b, M b → base ≤ b) (hx : Rd w' (fun b => ¬ M b ∨ b < base ∨ w.heap.size ≤ b) x d) : Rd w' (fun b => ¬ M b) x d :=
  hx.weak (fun b _ hF => by
    rcases hF with hF | hF | hF
    · exact hF
    · intro h'; have := hM b h'; omega
    · exact qx_not h hF)
set_option maxRecDepth 100000 in
set_option maxHeartbeats 16000000 in
theorem queueActs_law (l : List Aq) (v : Value) (F : Nat → Prop) (w : World) (hl : Rd w F v (wds aqD l)) (hin : ∀ x ∈ l, AqIn x) :
    Calls Try.prog 3 #[v] w fun e w' => e = .returned (.bool true) ∧ Below w.heap.size w w' := by
  have hlo := hid (fun X (h : Rd X (fun b => b < w.heap.size) v (wds aqD l)) => long16_any l v _ X h)
  have hl := hl.weak (F' := fun b => b < w.heap.size) (fun b hb _ => hb)
  obtain ⟨A, c, rfl, _, _⟩ := wds_shape hl
  have Hin := hid hin
  have Hl0 := hid hl
  clear hin
  obtain ⟨Z, hZ⟩ : ∃ Z, Z = longA l := ⟨_, rfl⟩
  rw [← hZ] at hlo
  have HZ := hid hZ
  clear hZ
  go_enter Try.func3, Try.ntmps3
  go_wp2_with (fail)
  refine (wakes16_any _).mono ?_
  rintro e w1 ⟨rfl, hB1⟩
  go_wp2_with (fail)
  refine (hlo.out _ (hl.below hB1)).mono ?_
  rintro e w2 ⟨rfl, hB2⟩
  have hB := hB1.trans (hB2.mono hB1.size)
  clear hl hlo hB1 hB2
  cases Z with
  | true =>
    clear HZ
    go_wp2
    go_ret
    exact ⟨rfl, hB⟩
  | false =>
    obtain ⟨h60, h2k⟩ := longA_out HZ.out.symm
    have H2k := hid h2k
    clear HZ h2k
    go_wp2_with (fail)
    refine (qnew16_any _).mono ?_
    rintro e w3 ⟨qv, M3, rfl, hq3, hM3, hB3⟩
    have hM3' : ∀ b, M3 b → w.heap.size ≤ b := fun b h => Nat.le_trans hB.size (hM3 b h)
    have hB := hB.trans (hB3.mono hB.size)
    have Hq := hid hq3
    have HM := hid hM3'
    clear hq3 hM3 hM3' hB3
    go_wp2
    go_loopw [4, 17] (fun xv iv wr => ∃ (i : Nat) (M : Nat → Prop) (q : List Rq), i ≤ l.length ∧ iv = .int .i64 i ∧ QX wr qv M q ∧ Hid (∀ b, M b → w.heap.size ≤ b) ∧ Rd wr (fun b => ¬ M b) xv (rqs q) ∧ Below w.heap.size w wr) (fun _ i _ => l.length - (intOf i).toNat)
    case atStart => exact ⟨0, M3, [], Nat.zero_le _, rfl, Hq.out, HM, rqs_nil, hB⟩
    case round =>
      clear Hq HM hB
      obtain ⟨i, M, q, hi, rfl, hq, HM, hx, hB⟩ := hrel
      obtain ⟨Ax, cx, rfl⟩ := rqs_shape hx
      have hq12 := hq.qin.len
      by_cases hlt : i < l.length
      · have hI : (i : Int) < (l.length : Int) := by omega
        obtain ⟨x, hxx⟩ : ∃ x, l[i]? = some x := ⟨_, List.getElem?_eq_getElem hlt⟩
        have hg2 := H2k.out x (List.mem_of_getElem? hxx)
        have hxi := hid (Hin.out x (List.mem_of_getElem? hxx))
        obtain ⟨g, off, cs, rfl, _, hrg0, hel⟩ := wd_el Hl0.out hxx
        obtain ⟨u, rfl, hu0⟩ := aq_open hel
        have hrg : wr.rangeAt g (off + i * 38) (x.l u) := fun j y hy => (hB.cell (lt_of_cell (hrg0 j y hy))).trans (hrg0 j y hy)
        have hu : ∀ X, Below w.heap.size w X → Rd X (fun b => b < w.heap.size) u (bys x.r.g) := fun X h => hu0.below h
        clear hrg0
        obtain ⟨Au, cu, rfl⟩ := Rd.shape hu0
        clear hu0
        have hreq := hid (aq_req x (.slice Au x.r.g.length cu))
        have hlst := hid (aq_last x (.slice Au x.r.g.length cu))
        have hlen := hid (len_aq x (.slice Au x.r.g.length cu))
        have hone := hid (aq_one x Au x.r.g.length cu)
        have h0 : (x.l (.slice Au x.r.g.length cu))[0]? = some (.int .i64 x.k) := rfl
        have hadd := hid (fun (M : Nat → Prop) (q : List Rq) (X : World) (h : QX X qv M q) (hM : ∀ b, M b → w.heap.size ≤ b) (hu : Rd X (fun b => b < w.heap.size) (.slice Au x.r.g.length cu) (bys x.r.g)) => qadd16_any qv M q x.r (.slice Au x.r.g.length cu) _ X h hu (fun b hb h' => by have := hM b h'; omega) hxi.out.r hg2)
        have hrad := hid (fun (q : List Rq) (y : Value) (F' : Nat → Prop) (X : World) (h1 : Rd X F' y (rqs q)) (hu : Rd X (fun b => b < w.heap.size) (.slice Au x.r.g.length cu) (bys x.r.g)) (hn : q.length ≤ 12) => (show Calls Try.prog 13 #[y, .agg (x.r.l (.slice Au x.r.g.length cu)).toArray] X (fun e w' => ∃ v', e = .returned (.tuple #[v', .int .i64 (addE q x.r)]) ∧ Rd w' (fun b => F' b ∨ b < w.heap.size ∨ X.heap.size ≤ b) v' (rqs (addL q x.r)) ∧ Below X.heap.size X w') from radd16_any q x.r y _ _ _ X h1 hu hn))
        have hbat := hid (fun (M : Nat → Prop) (q : List Rq) (X : World) (h : QX X qv M q) => qbatch16_any qv M q x.a X h x.ha)
        have hrba := hid (fun (q : List Rq) (y : Value) (F' : Nat → Prop) (X : World) (h1 : Rd X F' y (rqs q)) (hi : QIn q) => rbatch16_any q x.a y F' X h1 hi x.ha)
        have hdro := hid (fun (M : Nat → Prop) (q : List Rq) (X : World) (h : QX X qv M q) => qdrop16_any qv M q x.a X h x.ha)
        have hrdr := hid (fun (q : List Rq) (y : Value) (F' : Nat → Prop) (X : World) (h1 : Rd X F' y (rqs q)) (hi : QIn q) => rdrop16_any q x.a y F' X h1 hi x.ha)
        have lrq : (x.r.l (.slice Au x.r.g.length cu)).length = 7 := rfl
        have lra : (ras x.a).length = 30 := by rw [len_ras, x.ha]
        obtain ⟨lx, hlx⟩ : ∃ q, q = x.l (.slice Au x.r.g.length cu) := ⟨_, rfl⟩
        obtain ⟨lr, hlr⟩ : ∃ q, q = x.r.l (.slice Au x.r.g.length cu) := ⟨_, rfl⟩
        obtain ⟨la, hla⟩ : ∃ q, q = ras x.a := ⟨_, rfl⟩
        obtain ⟨kk, hkk⟩ : ∃ q, q = x.k := ⟨_, rfl⟩
        rw [← hlx] at hrg hreq hlst hlen hone h0
        rw [← hlr] at hreq hadd hrad lrq
        rw [← hla] at hlst hbat hrba hdro hrdr lra
        rw [← hkk] at h0
        have Lrq := hid lrq
        have Lra := hid lra
        have H0 := hid h0
        have Hu := hid hu
        clear hlx hlr hla hkk lrq lra hel hxx h0 hu hg2
        go_wp2_with (first | refine wp_ixa 22 _ _ rfl rfl rfl (i := i) rfl Try.underlying22 hlt sizeAq ?_ | refine wp_ld 39 (.tmp 19) rfl rfl rfl hrg Try.underlying39 rfl (by rw [hlen.out]; exact sizeAq) ?_ | (refine wp_newst 39 6 (.tmp 20) rfl rfl rfl rfl rfl rfl zeroAq (l := lx) rfl (by rw [hlen.out]; rfl) (by rw [hlen.out]; exact sizeAq) hone.out (by simp [Act.put]) ?_; intro w6 b6 hB6 hs6; refine wp_stop ?_))
        have hg6 : ¬ M wr.heap.size := qx_not hq (Nat.le_refl _)
        have hq := hq.below hB6
        have hx := hx.below hB6
        have hB := hB.trans (hB6.mono hB.size)
        obtain ⟨g6, hg6e⟩ : ∃ g, g = wr.heap.size := ⟨_, rfl⟩
        rw [← hg6e] at b6 hg6 ⊢
        clear hg6e hs6 hB6 hrg
        have d0 := b6.cellAt 0 _ H0.out
        refine wp_go ?_
        by_cases k0 : kk = 0
        · subst k0
          have hr1 := b6.range 1 lr hreq.out
          go_wp2_with (refine wp_ld 32 (.tmp 26) rfl rfl rfl hr1 Try.underlying32 rfl (by rw [Lrq.out]; exact sizeRq16) ?_)
          refine (hadd.out _ _ _ hq HM.out (Hu.out _ hB)).mono ?_
          rintro e w7 ⟨rfl, M7, hp⟩
          have hx := hp.rd hx
          obtain ⟨b6, hg6⟩ := hp.blk b6 hg6
          obtain ⟨hB, HMM⟩ := hp.bel hB HM.out hB.size
          have hqi := hq.qin.len
          have hq := hp.q
          have hr1 := b6.range 1 lr hreq.out
          clear hp
          go_wp2_with (refine wp_ld 32 (.tmp 31) rfl rfl rfl hr1 Try.underlying32 rfl (by rw [Lrq.out]; exact sizeRq16) ?_)
          refine (hrad.out _ _ _ _ hx (Hu.out _ hB) hqi).mono ?_
          rintro e w8 ⟨yv, rfl, hy, hB8⟩
          have hx := rd_m3 hq HMM hy
          have hq := hq.below hB8
          have hB := hB.trans (hB8.mono hB.size)
          obtain ⟨E, hE⟩ : ∃ E, E = addE q x.r := ⟨_, rfl⟩
          obtain ⟨L, hL⟩ : ∃ L, L = addL q x.r := ⟨_, rfl⟩
          rw [← hL] at hx hq hy
          rw [← hE]
          obtain ⟨Ay, cy, rfl⟩ := rqs_shape hx
          clear hE hL hy hB8 hr1
          clear b6 hg6 d0 hreq hlst hlen hone hadd hrad hbat hrba hdro hrdr H0
          have hq12 := hq.qin.len
          go_wp2_with (fail)
          refine (qall16_any _ _ _ _ hq).mono ?_
          rintro e w11 ⟨av, rfl, hra, hB11⟩
          have hq := hq.below hB11
          have hx := hx.below hB11
          have hB := hB.trans (hB11.mono hB.size)
          obtain ⟨Aa, ca, rfl⟩ := rqs_shape hra
          go_wp2_with (fail)
          refine (sameAllG_any _ _ _ _ _ _ hra hx (by omega)).mono ?_
          rintro e w12 ⟨rfl, hB12⟩
          have hq := hq.below hB12
          have hx := hx.below hB12
          have hB := hB.trans (hB12.mono hB.size)
          have hln := hid (qlen16_any _ _ _ _ hq)
          go_wp2_with (fail)
          refine hln.out.mono ?_
          rintro e w13 ⟨rfl, hB13⟩
          have hq := hq.below hB13
          have hx := hx.below hB13
          have hB := hB.trans (hB13.mono hB.size)
          go_wp2
          go_roundw
          case rel => exact ⟨i + 1, _, _, by omega, by go_num, hq, hid HMM, hx, hB⟩
          case measure => simp [intOf]; omega
        · have n0 : (kk == 0) = false := beq_eq_false_iff_ne.2 k0
          by_cases k1 : kk = 1
          · subst k1
            have hr8 := b6.range 8 la hlst.out
            go_upto_region 18 with (fail)
            have C8 := hid (fun Y (h : Ch nob w6 Y) => (b6.ch h (fun e => e)).range 8 la hlst.out)
            refine wp_region_noPanic ?_
            refine wp_region_held_drew (S := Ch nob w6) (by kernel_rfl) ((Ch.refl _ _).drew) (fun hHeld => ?_)
            refine wpAnyH_take (i := 0) (oi := ⟨some 42, _, _, _, _, none⟩) (v := ?_) rfl (by kernel_rfl) (by kernel_rfl) (by kernel_rfl) (fun _ _ _ h => h) (Or.inl ⟨by rfl, ?_⟩) (by assumption) ?_
            rotate_left
            · intro w hSw; go_simp; try with_reducible rfl
            try simp only [Act.put, List.setIfInBounds_toArray, List.set_cons_zero, List.set_cons_succ]
            refine wpAnyH_take (i := 1) (oi := ⟨some 43, _, _, _, _, none⟩) (v := ?_) rfl (by kernel_rfl) (by kernel_rfl) (by kernel_rfl) (fun _ _ _ h => h) (Or.inl ⟨by rfl, ?_⟩) (by assumption) ?_
            rotate_left
            · intro w hSw; go_simp; try with_reducible rfl
            try simp only [Act.put, List.setIfInBounds_toArray, List.set_cons_zero, List.set_cons_succ]
            refine wpAnyH_take (i := 2) (oi := ⟨some 44, .load 37 (.tmp 43), _, _, _, none⟩) (v := _) rfl (by kernel_rfl) (by kernel_rfl) (by kernel_rfl) (fun _ _ _ h => h) (yieldsIf_load_mid (by rfl) 37 (.tmp 43) (by rfl) _ (_) (by rfl) _ _ (fun _ hs => C8.out _ hs) Try.underlying37 rfl (by rw [Lra.out]; exact sizeLast16)) (by assumption) ?_
            try simp only [Act.put, List.setIfInBounds_toArray, List.set_cons_zero, List.set_cons_succ]
            refine wpAnyH_take (i := 4) (oi := ⟨some 46, _, _, _, _, none⟩) (v := ?_) rfl (by kernel_rfl) (by kernel_rfl) (by kernel_rfl) (fun _ _ _ h => h) (Or.inl ⟨by rfl, ?_⟩) (by assumption) ?_
            rotate_left
            · intro w hSw; go_simp; try with_reducible rfl
            try simp only [Act.put, List.setIfInBounds_toArray, List.set_cons_zero, List.set_cons_succ]
            refine wpAnyH_take (i := 5) (oi := ⟨some 47, _, _, _, _, none⟩) (v := ?_) rfl (by kernel_rfl) (by kernel_rfl) (by kernel_rfl) (fun _ _ _ h => h) (Or.inl ⟨by rfl, ?_⟩) (by assumption) ?_
            rotate_left
            · intro w hSw; go_simp; try with_reducible rfl
            try simp only [Act.put, List.setIfInBounds_toArray, List.set_cons_zero, List.set_cons_succ]
            refine wpAnyH_take (i := 6) (oi := ⟨some 48, .load 37 (.tmp 47), _, _, _, none⟩) (v := _) rfl (by kernel_rfl) (by kernel_rfl) (by kernel_rfl) (fun _ _ _ h => h) (yieldsIf_load_mid (by rfl) 37 (.tmp 47) (by rfl) _ (_) (by rfl) _ _ (fun _ hs => C8.out _ hs) Try.underlying37 rfl (by rw [Lra.out]; exact sizeLast16)) (by assumption) ?_
            try simp only [Act.put, List.setIfInBounds_toArray, List.set_cons_zero, List.set_cons_succ]
            refine wpAnyH_ready (rs := [3]) (by kernel_rfl) (by simp) ?_
            refine AllReadyH.cons (o := ⟨some 45, _, _, _, _, none⟩) rfl (fun K hK => ?_) AllReadyH.nil
            go_simp
            refine (hbat.out _ _ _ (hq.below hHeld.below)).mono ?_
            rintro e' w7 ⟨v7, rfl, hr7, hB7⟩
            refine hK.out _ _ (hHeld.belowR hB7) (fun hHeld => ?_)
            clear hK K
            try simp only [Act.put, List.setIfInBounds_toArray, List.set_cons_zero, List.set_cons_succ]
            refine wpAnyH_ready (rs := [7]) (by kernel_rfl) (by simp) ?_
            refine AllReadyH.cons (o := ⟨some 49, _, _, _, _, none⟩) rfl (fun K hK => ?_) AllReadyH.nil
            go_simp
            refine (hrba.out _ _ _ _ (hx.below hHeld.below) hq.qin).mono ?_
            rintro e' w9 ⟨v9, rfl, hr9, hB9⟩
            have hr7 := hr7.below hB9
            refine hK.out _ _ (hHeld.belowR hB9) (fun hHeld => ?_)
            clear hK K
            try simp only [Act.put, List.setIfInBounds_toArray, List.set_cons_zero, List.set_cons_succ]
            refine wpAnyH_ready (rs := [8]) (by kernel_rfl) (by simp) ?_
            refine AllReadyH.cons (o := ⟨some 50, _, _, _, _, none⟩) rfl (fun K hK => ?_) AllReadyH.nil
            go_simp
            refine (sameAllG_any _ _ _ _ _ _ hr7 hr9 (by have := (bin_all x.a q).len; omega)).mono ?_
            rintro e' w10 ⟨rfl, hB10⟩
            refine hK.out _ _ (hHeld.belowR hB10) (fun hHeld => ?_)
            clear hK K
            try simp only [Act.put, List.setIfInBounds_toArray, List.set_cons_zero, List.set_cons_succ]
            refine wpAnyH_take (i := 9) (oi := ⟨some 51, _, _, _, _, none⟩) (v := ?_) rfl (by kernel_rfl) (by kernel_rfl) (by kernel_rfl) (fun _ _ _ h => h) (Or.inl ⟨by rfl, ?_⟩) (by assumption) ?_
            rotate_left
            · intro w hSw; go_simp; try with_reducible rfl
            try simp only [Act.put, List.setIfInBounds_toArray, List.set_cons_zero, List.set_cons_succ]
            refine wpAnyH_done (by kernel_rfl) ?_ _
            refine NoPanic.normal ?_
            have hq := hq.below hHeld.below
            have hx := hx.below hHeld.below
            have hB := Ch.below_of hB hHeld (fun k hk => hk.elim) hB.size
            have HMM := HM.out
            clear hHeld C8 hr8
            clear b6 hg6 d0 hreq hlst hlen hone hadd hrad hbat hrba hdro hrdr H0
            have hq12 := hq.qin.len
            go_wp2_with (fail)
            refine (qall16_any _ _ _ _ hq).mono ?_
            rintro e w11 ⟨av, rfl, hra, hB11⟩
            have hq := hq.below hB11
            have hx := hx.below hB11
            have hB := hB.trans (hB11.mono hB.size)
            obtain ⟨Aa, ca, rfl⟩ := rqs_shape hra
            go_wp2_with (fail)
            refine (sameAllG_any _ _ _ _ _ _ hra hx (by omega)).mono ?_
            rintro e w12 ⟨rfl, hB12⟩
            have hq := hq.below hB12
            have hx := hx.below hB12
            have hB := hB.trans (hB12.mono hB.size)
            have hln := hid (qlen16_any _ _ _ _ hq)
            go_wp2_with (fail)
            refine hln.out.mono ?_
            rintro e w13 ⟨rfl, hB13⟩
            have hq := hq.below hB13
            have hx := hx.below hB13
            have hB := hB.trans (hB13.mono hB.size)
            go_wp2
            go_roundw
            case rel => exact ⟨i + 1, _, _, by omega, by go_num, hq, hid HMM, hx, hB⟩
            case measure => simp [intOf]; omega
          · have n1 : (kk == 1) = false := beq_eq_false_iff_ne.2 k1
            by_cases k2 : kk = 2
            · subst k2
              have hr8 := b6.range 8 la hlst.out
              go_wp2_with (refine wp_ld 37 (.tmp 55) rfl rfl rfl hr8 Try.underlying37 rfl (by rw [Lra.out]; exact sizeLast16) ?_)
              refine (hdro.out _ _ _ hq).mono ?_
              rintro e w7 ⟨rfl, M7, hp⟩
              have hx := hp.rd hx
              obtain ⟨b6, hg6⟩ := hp.blk b6 hg6
              obtain ⟨hB, HMM⟩ := hp.bel hB HM.out hB.size
              have hqi := hq.qin
              have hq := hp.q
              have hr8 := b6.range 8 la hlst.out
              clear hp
              go_wp2_with (refine wp_ld 37 (.tmp 59) rfl rfl rfl hr8 Try.underlying37 rfl (by rw [Lra.out]; exact sizeLast16) ?_)
              refine (hrdr.out _ _ _ _ hx hqi).mono ?_
              rintro e w8 ⟨yv, rfl, hy, hB8⟩
              have hx := rd_m hq hy
              have hq := hq.below hB8
              have hB := hB.trans (hB8.mono hB.size)
              obtain ⟨L, hL⟩ : ∃ L, L = drpQ x.a q := ⟨_, rfl⟩
              rw [← hL] at hx hq hy
              obtain ⟨Ay, cy, rfl⟩ := rqs_shape hx
              clear hL hy hB8 hr8
              clear b6 hg6 d0 hreq hlst hlen hone hadd hrad hbat hrba hdro hrdr H0
              have hq12 := hq.qin.len
              go_wp2_with (fail)
              refine (qall16_any _ _ _ _ hq).mono ?_
              rintro e w11 ⟨av, rfl, hra, hB11⟩
              have hq := hq.below hB11
              have hx := hx.below hB11
              have hB := hB.trans (hB11.mono hB.size)
              obtain ⟨Aa, ca, rfl⟩ := rqs_shape hra
              go_wp2_with (fail)
              refine (sameAllG_any _ _ _ _ _ _ hra hx (by omega)).mono ?_
              rintro e w12 ⟨rfl, hB12⟩
              have hq := hq.below hB12
              have hx := hx.below hB12
              have hB := hB.trans (hB12.mono hB.size)
              have hln := hid (qlen16_any _ _ _ _ hq)
              go_wp2_with (fail)
              refine hln.out.mono ?_
              rintro e w13 ⟨rfl, hB13⟩
              have hq := hq.below hB13
              have hx := hx.below hB13
              have hB := hB.trans (hB13.mono hB.size)
              go_wp2
              go_roundw
              case rel => exact ⟨i + 1, _, _, by omega, by go_num, hq, hid HMM, hx, hB⟩
              case measure => simp [intOf]; omega
            · have n2 : (kk == 2) = false := beq_eq_false_iff_ne.2 k2
              have HMM := HM.out
              clear b6 hg6 hreq hlst hlen hone hadd hrad hbat hrba hdro hrdr H0
              have hq12 := hq.qin.len
              go_wp2_with (fail)
              refine (qall16_any _ _ _ _ hq).mono ?_
              rintro e w11 ⟨av, rfl, hra, hB11⟩
              have hq := hq.below hB11
              have hx := hx.below hB11
              have hB := hB.trans (hB11.mono hB.size)
              obtain ⟨Aa, ca, rfl⟩ := rqs_shape hra
              go_wp2_with (fail)
              refine (sameAllG_any _ _ _ _ _ _ hra hx (by omega)).mono ?_
              rintro e w12 ⟨rfl, hB12⟩
              have hq := hq.below hB12
              have hx := hx.below hB12
              have hB := hB.trans (hB12.mono hB.size)
              have hln := hid (qlen16_any _ _ _ _ hq)
              go_wp2_with (fail)
              refine hln.out.mono ?_
              rintro e w13 ⟨rfl, hB13⟩
              have hq := hq.below hB13
              have hx := hx.below hB13
              have hB := hB.trans (hB13.mono hB.size)
              go_wp2
              go_roundw
              case rel => exact ⟨i + 1, _, _, by omega, by go_num, hq, hid HMM, hx, hB⟩
              case measure => simp [intOf]; omega
      · have hI : ¬ (i : Int) < (l.length : Int) := by omega
        go_wp2
        go_ret
        exact ⟨rfl, hB⟩
end Go.Proofs.Ytnpgloeldoiekaa
