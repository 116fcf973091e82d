/- B8: layer 16: QueueGone. -/
import Derived.Test.YtnpgloeldoiekaaB7
namespace Go.Proofs.Ytnpgloeldoiekaa
open Go.RowKit Go.V
theorem gone_add {a : List Rp} {q : List Rq} (h : QIn q) {r : Rq} (hr : r ∈ q) (hd : dueQ a r = false) : addE (drpQ a q) r = 0 := by
  have h1 : (drpQ a q).length < q.length := List.length_filter_lt_length_iff_exists.2 ⟨r, hr, by rw [hd]; simp⟩
  have h2 := h.len
  have h3 : hasQ (drpQ a q) r = false := by
    unfold hasQ
    rw [List.any_eq_false]
    intro x hx he
    simp only [Bool.and_eq_true, decide_eq_true_eq] at he
    have hx2 := (List.mem_filter.1 hx).2
    unfold dueQ at hx2 hd
    rw [he.1, he.2, hd] at hx2
    cases hx2
  unfold addE
  rw [h.fm r hr, h3, if_neg (by simp), if_neg (by simp), if_neg (by omega)]
theorem gone_all {a : List Rp} {q : List Rq} (h : ∀ x ∈ q, dueQ a x = true) : drpQ a q = q := List.filter_eq_self.2 h
set_option maxRecDepth 100000 in
set_option maxHeartbeats 16000000 in
theorem queueGone_law (l : List Aq) (a : List Rp) (v : Value) (F : Nat → Prop) (w : World) (hl : Rd w F v (wds aqD l)) (hin : ∀ x ∈ l, AqIn x) (ha : a.length = 6) :
    Calls Try.prog 6 #[v, .agg (ras a).toArray] w fun e w' => e = .returned (.bool true) ∧ Below w.heap.size w w' := by
  have hlo := hid (fun X (h : Rd X (fun b => b < w.heap.size) v (wds aqD l)) => long16_any l v _ X h)
  have hl := hl.weak (F' := fun b => b < w.heap.size) (fun b hb _ => hb)
  obtain ⟨A, c, rfl, _, _⟩ := wds_shape hl
  have Hin := hid hin
  clear hin
  have b3 := Blk.new' w 37 (ras a)
  have hB : Below w.heap.size w (w.alloc (.cells (ras a).toArray 37)) := (Below.refl _ _).alloc (Nat.le_refl _) _
  have Has := hid (fun (ci : Nat) (p : Rp) (h : a[ci]? = some p) => ras_s h)
  have hbat := hid (fun (qv : Value) (M : Nat → Prop) (q : List Rq) (X : World) (h : QX X qv M q) => qbatch16_any qv M q a X h ha)
  have hdro := hid (fun (qv : Value) (M : Nat → Prop) (q : List Rq) (X : World) (h : QX X qv M q) => qdrop16_any qv M q a X h ha)
  have hrdr := hid (fun (q : List Rq) (y : Value) (F' : Nat → Prop) (X : World) (h1 : Rd X F' y (rqs q)) (hi : QIn q) => rdrop16_any q a y F' X h1 hi ha)
  have lra : (ras a).length = 30 := by rw [len_ras, ha]
  obtain ⟨la, hla⟩ : ∃ q, q = ras a := ⟨_, rfl⟩
  rw [← hla] at b3 hB Has hbat hdro hrdr lra ⊢
  have Lra := hid lra
  clear hla lra
  obtain ⟨Z, hZ⟩ : ∃ Z, Z = longA l := ⟨_, rfl⟩
  rw [← hZ] at hlo
  have HZ := hid hZ
  clear hZ
  go_enter Try.func6, Try.ntmps6
  go_wp2_with (fail)
  obtain ⟨w0, hw0⟩ : ∃ x, x = w.alloc (.cells la.toArray 37) := ⟨_, rfl⟩
  rw [← hw0] at b3 hB ⊢
  clear hw0
  obtain ⟨g3, hg3⟩ : ∃ g, g = w.heap.size := ⟨_, rfl⟩
  rw [← hg3] at b3 ⊢
  clear hg3
  refine (wakes16_any _).mono ?_
  rintro e w1 ⟨rfl, hB1⟩
  have b3 := b3.below hB1
  have hB := hB.trans (hB1.mono hB.size)
  go_wp2_with (fail)
  refine (hlo.out _ (hl.below hB)).mono ?_
  rintro e w2 ⟨rfl, hB2⟩
  have b3 := b3.below hB2
  have hB := hB.trans (hB2.mono hB.size)
  clear hlo hB1 hB2
  cases Z with
  | true =>
    clear HZ
    go_wp2
    go_ret
    exact ⟨rfl, hB⟩
  | false =>
    obtain ⟨h60, h2k⟩ := longA_out HZ.out.symm
    have H2k := hid h2k
    have Hl0 := hid (hl.below hB)
    have HB := hid hB
    have H3 := hid b3
    have hwn := hB.size
    clear HZ h2k hl hB b3
    go_wp2_with (fail)
    refine (qnew16_any _).mono ?_
    rintro e w3 ⟨qv, M3, rfl, hq3, hM3, hB3⟩
    have Hq := hid hq3
    have HM := hid hM3
    clear hq3 hM3
    go_wp2
    go_loopw [18] (fun iv wr => ∃ (i : Nat) (M : Nat → Prop) (q : List Rq), i ≤ l.length ∧ iv = .int .i64 i ∧ QX wr qv M q ∧ Hid (∀ b, M b → w2.heap.size ≤ b) ∧ Hid (∀ r ∈ q, in64 r.a ∧ in64 r.b) ∧ Below w2.heap.size w2 wr) (fun i _ => l.length - (intOf i).toNat)
    case atStart => exact ⟨0, M3, [], Nat.zero_le _, rfl, Hq.out, HM, hid (fun r hr => by simp at hr), hB3⟩
    case round =>
      clear Hq HM hB3
      obtain ⟨i, M, q, hi, rfl, hq, HM, Hq6, hB⟩ := hrel
      by_cases hlt : i < l.length
      · have hI : (i : Int) < (l.length : Int) := by omega
        obtain ⟨x, hxx⟩ : ∃ x, l[i]? = some x := ⟨_, List.getElem?_eq_getElem hlt⟩
        have hg2 := H2k.out x (List.mem_of_getElem? hxx)
        have hxi := hid (Hin.out x (List.mem_of_getElem? hxx))
        obtain ⟨g, off, cs, rfl, _, hrg0, hel⟩ := wd_el Hl0.out hxx
        obtain ⟨u, rfl, hu0⟩ := aq_open hel
        have hrg : wr.rangeAt g (off + i * 38) (x.l u) := fun j y hy => (hB.cell (lt_of_cell (hrg0 j y hy))).trans (hrg0 j y hy)
        have hu : ∀ X, Below w2.heap.size w2 X → Rd X (fun b => b < w.heap.size) u (bys x.r.g) := fun X h => hu0.below h
        clear hrg0
        obtain ⟨Au, cu, rfl⟩ := Rd.shape hu0
        clear hu0
        have hreq := hid (aq_req x (.slice Au x.r.g.length cu))
        have hlen := hid (len_aq x (.slice Au x.r.g.length cu))
        have hone := hid (aq_one x Au x.r.g.length cu)
        have hadd := hid (fun (M : Nat → Prop) (q : List Rq) (X : World) (h : QX X qv M q) (hM : ∀ b, M b → w2.heap.size ≤ b) (hu : Rd X (fun b => b < w.heap.size) (.slice Au x.r.g.length cu) (bys x.r.g)) => qadd16_any qv M q x.r (.slice Au x.r.g.length cu) _ X h hu (fun b hb h' => by have := hM b h'; omega) hxi.out.r hg2)
        have lrq : (x.r.l (.slice Au x.r.g.length cu)).length = 7 := rfl
        obtain ⟨lx, hlx⟩ : ∃ q, q = x.l (.slice Au x.r.g.length cu) := ⟨_, rfl⟩
        obtain ⟨lr, hlr⟩ : ∃ q, q = x.r.l (.slice Au x.r.g.length cu) := ⟨_, rfl⟩
        rw [← hlx] at hrg hreq hlen hone
        rw [← hlr] at hreq hadd lrq
        have Lrq := hid lrq
        have Hu := hid hu
        clear hlx hlr lrq hel hxx hu hg2
        go_wp2_with (first | refine wp_ixa 22 _ _ rfl rfl rfl (i := i) rfl Try.underlying22 hlt sizeAq ?_ | refine wp_ld 39 (.tmp 20) rfl rfl rfl hrg Try.underlying39 rfl (by rw [hlen.out]; exact sizeAq) ?_ | (refine wp_newst 39 7 (.tmp 21) rfl rfl rfl rfl rfl rfl zeroAq (l := lx) rfl (by rw [hlen.out]; rfl) (by rw [hlen.out]; exact sizeAq) hone.out (by simp [Act.put]) ?_; intro w6 b6 hB6 hs6; refine wp_stop ?_))
        have hq := hq.below hB6
        have hB := hB.trans (hB6.mono hB.size)
        obtain ⟨g6, hg6e⟩ : ∃ g, g = wr.heap.size := ⟨_, rfl⟩
        rw [← hg6e] at b6 ⊢
        clear hg6e hs6 hB6 hrg
        have hr1 := b6.range 1 lr hreq.out
        refine wp_go ?_
        go_wp2_with (refine wp_ld 32 (.tmp 23) rfl rfl rfl hr1 Try.underlying32 rfl (by rw [Lrq.out]; exact sizeRq16) ?_)
        refine (hadd.out _ _ _ hq HM.out (Hu.out _ hB)).mono ?_
        rintro e w7 ⟨rfl, M7, hp⟩
        obtain ⟨hB, HMM⟩ := hp.bel hB HM.out hB.size
        have hq := hp.q
        have Hq7 : Hid (∀ r ∈ addL q x.r, in64 r.a ∧ in64 r.b) := fun r hr => by
          unfold addL at hr
          split at hr
          · rcases List.mem_append.1 hr with hr | hr
            · exact Hq6.out r hr
            · rw [List.mem_singleton.1 hr]; exact hxi.out.r
          · exact Hq6.out r hr
        obtain ⟨E, hE⟩ : ∃ E, E = addE q x.r := ⟨_, rfl⟩
        obtain ⟨L, hL⟩ : ∃ L, L = addL q x.r := ⟨_, rfl⟩
        rw [← hL] at hq Hq7
        rw [← hE]
        clear hE hL hp hr1 b6 hadd hreq hlen hone
        go_wp2
        go_roundw
        case rel => exact ⟨i + 1, M7, L, by omega, by go_num, hq, hid HMM, Hq7, hB⟩
        case measure => simp [intOf]; omega
      · have hI : ¬ (i : Int) < (l.length : Int) := by omega
        have b3 := H3.out.below hB
        have hg3w := H3.out.lt
        have hqi := hid hq.qin
        have hq12 := hq.qin.len
        have hwr := hB.size
        clear hi hlt H3 Hl0 H2k Hin
        go_wp2_with (fail)
        refine (qall16_any _ _ _ _ hq).mono ?_
        rintro e w8 ⟨av, rfl, hll, hB8⟩
        have hll := rd_m hq (hll.weak (F' := fun b => ¬ M b ∨ wr.heap.size ≤ b) (fun b _ h => .inr h))
        have b3 := b3.below hB8
        have hq := hq.below hB8
        have hB := hB.trans (hB8.mono hB.size)
        obtain ⟨Al, cl, rfl⟩ := rqs_shape hll
        go_wp2_with (refine wp_ld 37 (.tmp 3) rfl rfl rfl b3.whole Try.underlying37 rfl (by rw [Lra.out]; exact sizeLast16) ?_)
        refine (hdro.out _ _ _ _ hq).mono ?_
        rintro e w9 ⟨rfl, M9, hp⟩
        have hll := hp.rd hll
        obtain ⟨b3, _⟩ := hp.blk b3 (fun h => by have := HM.out g3 h; omega)
        obtain ⟨hB, HMM⟩ := hp.bel hB HM.out hB.size
        have hq := hp.q
        clear hp hB8 hdro hbat HM
        have hga := hid (fun (r : Rq) hr hd => gone_add (a := a) (q := q) (r := r) hqi.out hr hd)
        have hgl := hid (fun h => gone_all (a := a) (q := q) h)
        go_upto_region 13 with (fail)
        have C3 := hid (fun Y (h : Ch nob w9 Y) => (b3.ch h (fun e => e)).whole)
        refine wp_region_noPanic ?_
        refine wp_region_held_drew (S := Ch nob w9) (by kernel_rfl) ((Ch.refl _ _).drew) (fun hHeld => ?_)
        refine wpAnyH_take (i := 0) (oi := ⟨some 32, _, _, _, _, none⟩) (v := ?_) rfl (by kernel_rfl) (by kernel_rfl) (by kernel_rfl) (fun _ _ _ h => h) (Or.inl ⟨by rfl, ?_⟩) (by assumption) ?_
        rotate_left
        · intro w hSw; go_simp; try with_reducible rfl
        try simp only [Act.put, List.setIfInBounds_toArray, List.set_cons_zero, List.set_cons_succ]
        refine wpAnyH_take (i := 2) (oi := ⟨some 34, _, _, _, _, none⟩) (v := ?_) rfl (by kernel_rfl) (by kernel_rfl) (by kernel_rfl) (fun _ _ _ h => h) (Or.inl ⟨by rfl, ?_⟩) (by assumption) ?_
        rotate_left
        · intro w hSw; go_simp; try with_reducible rfl
        try simp only [Act.put, List.setIfInBounds_toArray, List.set_cons_zero, List.set_cons_succ]
        refine wpAnyH_take (i := 3) (oi := ⟨some 35, .load 37 (.tmp 3), _, _, _, none⟩) (v := _) rfl (by kernel_rfl) (by kernel_rfl) (by kernel_rfl) (fun _ _ _ h => h) (yieldsIf_load_mid (by rfl) 37 (.tmp 3) (by rfl) _ (0) (by rfl) _ _ (fun _ hs => C3.out _ hs) Try.underlying37 rfl (by rw [Lra.out]; exact sizeLast16)) (by assumption) ?_
        try simp only [Act.put, List.setIfInBounds_toArray, List.set_cons_zero, List.set_cons_succ]
        refine wpAnyH_ready (rs := [1]) (by kernel_rfl) (by simp) ?_
        refine AllReadyH.cons (o := ⟨some 33, _, _, _, _, none⟩) rfl (fun K hK => ?_) AllReadyH.nil
        go_simp
        refine (qall16_any _ _ _ _ (hq.below hHeld.below)).mono ?_
        rintro e' w10 ⟨v10, rfl, hr10, hB10⟩
        refine hK.out _ _ (hHeld.belowR hB10) (fun hHeld => ?_)
        clear hK K
        try simp only [Act.put, List.setIfInBounds_toArray, List.set_cons_zero, List.set_cons_succ]
        refine wpAnyH_ready (rs := [4]) (by kernel_rfl) (by simp) ?_
        refine AllReadyH.cons (o := ⟨some 36, _, _, _, _, none⟩) rfl (fun K hK => ?_) AllReadyH.nil
        go_simp
        refine (hrdr.out _ _ _ _ (hll.below hHeld.below) hqi.out).mono ?_
        rintro e' w11 ⟨v11, rfl, hr11, hB11⟩
        have hr10 := hr10.below hB11
        refine hK.out _ _ (hHeld.belowR hB11) (fun hHeld => ?_)
        clear hK K
        try simp only [Act.put, List.setIfInBounds_toArray, List.set_cons_zero, List.set_cons_succ]
        refine wpAnyH_ready (rs := [5]) (by kernel_rfl) (by simp) ?_
        refine AllReadyH.cons (o := ⟨some 37, _, _, _, _, none⟩) rfl (fun K hK => ?_) AllReadyH.nil
        go_simp
        refine (sameAllG_any _ _ _ _ _ _ hr10 hr11 (by have := hq.qin.len; omega)).mono ?_
        rintro e' w12 ⟨rfl, hB12⟩
        refine hK.out _ _ (hHeld.belowR hB12) (fun hHeld => ?_)
        clear hK K
        try simp only [Act.put, List.setIfInBounds_toArray, List.set_cons_zero, List.set_cons_succ]
        refine wpAnyH_take (i := 6) (oi := ⟨some 38, _, _, _, _, none⟩) (v := ?_) rfl (by kernel_rfl) (by kernel_rfl) (by kernel_rfl) (fun _ _ _ h => h) (Or.inl ⟨by rfl, ?_⟩) (by assumption) ?_
        rotate_left
        · intro w hSw; go_simp; try with_reducible rfl
        try simp only [Act.put, List.setIfInBounds_toArray, List.set_cons_zero, List.set_cons_succ]
        refine wpAnyH_done (by kernel_rfl) ?_ _
        refine NoPanic.normal ?_
        have b3 := b3.ch hHeld (fun e => e)
        have hq := hq.below hHeld.below
        have hll := hll.below hHeld.below
        have hB := Ch.below_of hB hHeld (fun k hk => hk.elim) hB.size
        clear C3 hHeld hrdr
        go_wp2
        go_loopw [41] (fun jv wr => ∃ j : Nat, j ≤ q.length ∧ jv = .int .i64 j ∧ Hid (∀ x ∈ q.take j, dueQ a x = true) ∧ Below w12.heap.size w12 wr) (fun j _ => q.length - (intOf j).toNat)
        case atStart => exact ⟨0, Nat.zero_le _, rfl, hid (fun x hx => by simp at hx), Below.refl _ _⟩
        case round =>
          obtain ⟨j, hj, rfl, hno, hBj⟩ := hrel
          by_cases hjl : j < q.length
          · have hI2 : (j : Int) < (q.length : Int) := by omega

            obtain ⟨r, hr⟩ : ∃ r, q[j]? = some r := ⟨_, List.getElem?_eq_getElem hjl⟩
            have hLr := hll.below hBj
            obtain ⟨gl, offl, hAl⟩ : ∃ gl offl, Al = some ⟨gl, offl, none⟩ := by
              obtain ⟨gl, offl, c', h⟩ := rqs_spot hLr (by omega)
              injection h with h _ _
              exact ⟨gl, offl, h⟩
            subst hAl
            obtain ⟨u, hru, hu⟩ := rqs_el hLr hr
            obtain ⟨Au, cu, rfl⟩ := Rd.shape hu
            have hfm := fm_in ((hqi.out.fm) r (List.mem_of_getElem? hr))
            obtain ⟨ci, hci⟩ : ∃ ci : Nat, r.c = (ci : Int) := ⟨r.c.toNat, by omega⟩
            have hci6 : ci < 6 := by omega
            obtain ⟨p, hp⟩ : ∃ p, a[ci]? = some p := ⟨_, List.getElem?_eq_getElem (by omega)⟩
            have hdu := due_at hci hp
            have hI6 : (ci : Int) < 6 := by omega
            have hone := hid (one_rq16 r Au r.g.length cu)
            have h0 : (r.l (.slice Au r.g.length cu))[0]? = some (.int .i64 (ci : Int)) := by rw [← hci]; rfl
            have h1 : (r.l (.slice Au r.g.length cu))[1]? = some (.int .i64 r.s) := rfl
            have lrq : (r.l (.slice Au r.g.length cu)).length = 7 := rfl
            obtain ⟨lr, hlr⟩ : ∃ q, q = r.l (.slice Au r.g.length cu) := ⟨_, rfl⟩
            rw [← hlr] at hru hone h0 h1 lrq
            have Lrq := hid lrq
            have H0 := hid h0
            have H1 := hid h1
            have Hlr := hid hlr
            have Hr := hid hr
            have Hdu := hid hdu
            have Hci := hid hci
            have Hfm := hid hfm
            have Hps := Has.out ci p hp
            clear hlr lrq h0 h1 hr hdu hci hp hfm
            go_wp2_with (first | refine wp_ixa 27 _ _ rfl rfl rfl (i := j) rfl Try.underlying27 hjl sizeRq16 ?_ | refine wp_ld 32 (.tmp 43) rfl rfl rfl hru Try.underlying32 rfl (by rw [Lrq.out]; exact sizeRq16) ?_ | (refine wp_newst 32 10 (.tmp 44) rfl rfl rfl rfl rfl rfl zeroRq16 (l := lr) rfl (by rw [Lrq.out]; rfl) (by rw [Lrq.out]; exact sizeRq16) hone.out (by simp [Act.put]) ?_; intro wk b10 hB9 hs9; refine wp_stop ?_))
            have hBj := hBj.trans (hB9.mono hBj.size)
            have hu := hu.below hB9
            obtain ⟨g10, hg10⟩ : ∃ g, g = wr.heap.size := ⟨_, rfl⟩
            rw [← hg10] at b10 ⊢
            clear hg10 hs9 hru hone hLr hB9
            have r0 := b10.cellAt 0 _ H0.out
            have r1 := b10.cellAt 1 _ H1.out
            have q3 : wk.cell? ⟨g3, ci * 5 + 1, none⟩ = some (.int .i64 p.s) := (b3.below hBj).cellAt _ _ Hps
            clear Hps
            refine wp_go ?_
            by_cases hlt2 : p.s < r.s
            · have hle : ¬ r.s ≤ p.s := by omega
              have dle : decide (r.s ≤ p.s) = false := decide_eq_false hle
              have hno2 := hid (show ∀ x ∈ q.take (j + 1), dueQ a x = true from by
                rw [take_snoc' Hr.out]
                intro x hx
                rcases List.mem_append.1 hx with hx | hx
                · exact hno.out x hx
                · rw [List.mem_singleton.1 hx, Hdu.out]; exact decide_eq_true hlt2)
              clear hlt2
              go_upto_region 18 with (fail)
              go_quiet (fail)
              go_wp2
              go_roundw
              case rel => exact ⟨j + 1, by omega, by go_num, hno2, by first | exact hBj | exact bel_drewN hBj _⟩
              case measure => simp [intOf]; omega
            · have hle : r.s ≤ p.s := by omega
              have dle : decide (r.s ≤ p.s) = true := decide_eq_true hle
              have hmem := List.mem_of_getElem? Hr.out
              have haz := hga.out r hmem (by rw [Hdu.out]; exact decide_eq_false hlt2)
              have hadd := hid (fun (X : World) (h : QX X qv M9 (drpQ a q)) (h2 : Rd X (fun b => ¬ M9 b) (.slice Au r.g.length cu) (bys r.g)) (hX : w2.heap.size ≤ X.heap.size) => (show Calls Try.prog 12 #[qv, .agg lr.toArray] X (fun e w' => e = .returned (.int .i64 0) ∧ Below w2.heap.size X w') from by
                rw [Hlr.out]
                have h3 := qadd16_any qv M9 (drpQ a q) r (.slice Au r.g.length cu) _ X h h2 (fun b h => h) (Hq6.out r hmem) (by have := Hfm.out; omega)
                rw [haz] at h3
                refine h3.mono ?_
                rintro e w' ⟨rfl, M', hp⟩
                exact ⟨rfl, (hp.bel (Below.refl _ _) HMM hX).1⟩))
              clear hlt2 haz
              have hqk := hq.below hBj
              have hBe := HB.out.trans ((hB.trans (hBj.mono hB.size)).mono HB.out.size)
              have hsk : w2.heap.size ≤ wk.heap.size := Nat.le_trans hB.size hBj.size
              go_upto_region 18 with (fail)
              go_quiet (fail)
              go_wp2_with (refine wp_ld 32 (.tmp 10) rfl rfl rfl (show (wk.drewN _).rangeAt g10 0 lr from b10.whole) Try.underlying32 rfl (by rw [Lrq.out]; exact sizeRq16) ?_)
              refine (hadd.out _ (hqk.below (bel_drewN (Below.refl _ _) _)) (hu.drewN _) hsk).mono ?_
              rintro e w13 ⟨rfl, hB13⟩
              go_wp2
              go_ret
              exact ⟨rfl, (bel_drewN hBe _).trans (hB13.mono HB.out.size)⟩
          · have hj' : j = q.length := by omega
            subst hj'
            have hI2 : ¬ (q.length : Int) < (q.length : Int) := by omega
            have hBe := HB.out.trans ((hB.trans (hBj.mono hB.size)).mono HB.out.size)
            have hgq := hgl.out (fun x hx => hno.out x (by rw [List.take_length]; exact hx))
            rw [hgq] at hq
            have hln := hid (qlen16_any _ _ _ _ (hq.below hBj))
            clear hgq hga hgl
            go_wp2_with (fail)
            refine hln.out.mono ?_
            rintro e w13 ⟨rfl, hB13⟩
            go_wp2
            go_ret
            exact ⟨rfl, hBe.trans (hB13.mono hBe.size)⟩

end Go.Proofs.Ytnpgloeldoiekaa
