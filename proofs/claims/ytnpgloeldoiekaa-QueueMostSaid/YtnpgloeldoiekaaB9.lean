/- B9: layer 16: QueueMost. -/
import Derived.Test.YtnpgloeldoiekaaB8
namespace Go.Proofs.Ytnpgloeldoiekaa
open Go.RowKit Go.V
theorem one_at {q : List Rq} (h : QIn q) {i k : Nat} {x y : Rq} (hx : q[i]? = some x) (hy : q[k]? = some y) (hk : k < i) (hc : x.c = y.c) : x.s ≠ y.s := by
  have hi := (List.getElem?_eq_some_iff.1 hx).1
  have := List.pairwise_iff_getElem.1 h.one k i (by omega) hi hk
  rw [List.getElem?_eq_getElem hi] at hx
  rw [List.getElem?_eq_getElem (by omega)] at hy
  injection hx with hx
  injection hy with hy
  rw [hx, hy] at this
  exact fun hs => this ⟨hc.symm, hs.symm⟩
set_option maxRecDepth 100000 in
set_option maxHeartbeats 16000000 in
theorem queueMost_law (l : List Aq) (v : Value) (F : Nat → Prop) (w : World) (hl : Rd w F v (wds aqD l)) (hin : ∀ x ∈ l, AqIn x) :
    Calls Try.prog 8 #[v] w fun e w' => e = .returned (.bool true) ∧ Below w.heap.size w w' := by
  have hlo := hid (fun X (h : Rd X (fun b => b < w.heap.size) v (wds aqD l)) => long16_any l v _ X h)
  have hl := hl.weak (F' := fun b => b < w.heap.size) (fun b hb _ => hb)
  obtain ⟨A, c, rfl, _, _⟩ := wds_shape hl
  have Hin := hid hin
  clear hin
  obtain ⟨Z, hZ⟩ : ∃ Z, Z = longA l := ⟨_, rfl⟩
  rw [← hZ] at hlo
  have HZ := hid hZ
  clear hZ
  go_enter Try.func8, Try.ntmps8
  go_wp2_with (fail)
  refine (wakes16_any _).mono ?_
  rintro e w1 ⟨rfl, hB⟩
  go_wp2_with (fail)
  refine (hlo.out _ (hl.below hB)).mono ?_
  rintro e w2 ⟨rfl, hB2⟩
  have hB := hB.trans (hB2.mono hB.size)
  clear hlo hB2
  cases Z with
  | true =>
    clear HZ
    go_wp2
    go_ret
    exact ⟨rfl, hB⟩
  | false =>
    obtain ⟨h60, h2k⟩ := longA_out HZ.out.symm
    have H2k := hid h2k
    have Hl0 := hid (hl.below hB)
    have HB := hid hB
    have hwn := hB.size
    clear HZ h2k hl hB
    go_wp2_with (fail)
    refine (qnew16_any _).mono ?_
    rintro e w3 ⟨qv, M3, rfl, hq3, hM3, hB3⟩
    have Hq := hid hq3
    have HM := hid hM3
    clear hq3 hM3
    go_wp2
    go_loopw [17] (fun iv wr => ∃ (i : Nat) (M : Nat → Prop) (q : List Rq), i ≤ l.length ∧ iv = .int .i64 i ∧ QX wr qv M q ∧ Hid (∀ b, M b → w2.heap.size ≤ b) ∧ Below w2.heap.size w2 wr) (fun i _ => l.length - (intOf i).toNat)
    case atStart => exact ⟨0, M3, [], Nat.zero_le _, rfl, Hq.out, HM, hB3⟩
    case round =>
      clear Hq HM hB3
      obtain ⟨i, M, q, hi, rfl, hq, HM, hB⟩ := hrel
      by_cases hlt : i < l.length
      · have hI : (i : Int) < (l.length : Int) := by omega
        obtain ⟨x, hxx⟩ : ∃ x, l[i]? = some x := ⟨_, List.getElem?_eq_getElem hlt⟩
        have hg2 := H2k.out x (List.mem_of_getElem? hxx)
        have hxi := hid (Hin.out x (List.mem_of_getElem? hxx))
        obtain ⟨g, off, cs, rfl, _, hrg0, hel⟩ := wd_el Hl0.out hxx
        obtain ⟨u, rfl, hu0⟩ := aq_open hel
        have hrg : wr.rangeAt g (off + i * 38) (x.l u) := fun j y hy => (hB.cell (lt_of_cell (hrg0 j y hy))).trans (hrg0 j y hy)
        have hu : ∀ X, Below w2.heap.size w2 X → Rd X (fun b => b < w.heap.size) u (bys x.r.g) := fun X h => hu0.below h
        clear hrg0
        obtain ⟨Au, cu, rfl⟩ := Rd.shape hu0
        clear hu0
        have hreq := hid (aq_req x (.slice Au x.r.g.length cu))
        have hlst := hid (aq_last x (.slice Au x.r.g.length cu))
        have hlen := hid (len_aq x (.slice Au x.r.g.length cu))
        have hone := hid (aq_one x Au x.r.g.length cu)
        have h0 : (x.l (.slice Au x.r.g.length cu))[0]? = some (.int .i64 x.k) := rfl
        have hadd := hid (fun (M : Nat → Prop) (q : List Rq) (X : World) (h : QX X qv M q) (hM : ∀ b, M b → w2.heap.size ≤ b) (hu : Rd X (fun b => b < w.heap.size) (.slice Au x.r.g.length cu) (bys x.r.g)) => qadd16_any qv M q x.r (.slice Au x.r.g.length cu) _ X h hu (fun b hb h' => by have := hM b h'; omega) hxi.out.r hg2)
        have hdro := hid (fun (M : Nat → Prop) (q : List Rq) (X : World) (h : QX X qv M q) => qdrop16_any qv M q x.a X h x.ha)
        have lrq : (x.r.l (.slice Au x.r.g.length cu)).length = 7 := rfl
        have lra : (ras x.a).length = 30 := by rw [len_ras, x.ha]
        obtain ⟨lx, hlx⟩ : ∃ q, q = x.l (.slice Au x.r.g.length cu) := ⟨_, rfl⟩
        obtain ⟨lr, hlr⟩ : ∃ q, q = x.r.l (.slice Au x.r.g.length cu) := ⟨_, rfl⟩
        obtain ⟨la, hla⟩ : ∃ q, q = ras x.a := ⟨_, rfl⟩
        obtain ⟨kk, hkk⟩ : ∃ q, q = x.k := ⟨_, rfl⟩
        rw [← hlx] at hrg hreq hlst hlen hone h0
        rw [← hlr] at hreq hadd lrq
        rw [← hla] at hlst hdro lra
        rw [← hkk] at h0
        have Lrq := hid lrq
        have Lra := hid lra
        have H0 := hid h0
        have Hu := hid hu
        clear hlx hlr hla hkk lrq lra hel hxx h0 hu hg2
        go_wp2_with (first | refine wp_ixa 22 _ _ rfl rfl rfl (i := i) rfl Try.underlying22 hlt sizeAq ?_ | refine wp_ld 39 (.tmp 19) rfl rfl rfl hrg Try.underlying39 rfl (by rw [hlen.out]; exact sizeAq) ?_ | (refine wp_newst 39 5 (.tmp 20) rfl rfl rfl rfl rfl rfl zeroAq (l := lx) rfl (by rw [hlen.out]; rfl) (by rw [hlen.out]; exact sizeAq) hone.out (by simp [Act.put]) ?_; intro w6 b6 hB6 hs6; refine wp_stop ?_))
        have hg6 : ¬ M wr.heap.size := qx_not hq (Nat.le_refl _)
        have hq := hq.below hB6
        have hB := hB.trans (hB6.mono hB.size)
        obtain ⟨g6, hg6e⟩ : ∃ g, g = wr.heap.size := ⟨_, rfl⟩
        rw [← hg6e] at b6 hg6 ⊢
        clear hg6e hs6 hB6 hrg
        refine wp_go ?_
        go_wp2_with (fail)
        refine (qall16_any _ _ _ _ hq).mono ?_
        rintro e w7 ⟨av, rfl, hwas, hB7⟩
        have hwas := rd_m hq (hwas.weak (F' := fun b => ¬ M b ∨ w6.heap.size ≤ b) (fun b _ h => .inr h))
        have b6 := b6.below hB7
        have hq := hq.below hB7
        have hB := hB.trans (hB7.mono hB.size)
        obtain ⟨Aw, cw, rfl⟩ := rqs_shape hwas
        have d0 := b6.cellAt 0 _ H0.out
        by_cases k2 : kk = 2
        · subst k2
          have hr8 := b6.range 8 la hlst.out
          go_wp2_with (refine wp_ld 37 (.tmp 27) rfl rfl rfl hr8 Try.underlying37 rfl (by rw [Lra.out]; exact sizeLast16) ?_)
          refine (hdro.out _ _ _ hq).mono ?_
          rintro e w8 ⟨rfl, M8, hp⟩
          obtain ⟨hB, HMM⟩ := hp.bel hB HM.out hB.size
          have hq := hp.q
          obtain ⟨L, hL⟩ : ∃ L, L = drpQ x.a q := ⟨_, rfl⟩
          rw [← hL] at hq
          clear hp hL hr8
          clear hwas d0 hadd hdro hreq hlst hlen hone b6 H0
          have hqq := hid hq.qin
          have hL12 := hq.qin.len
          go_wp2_with (fail)
          refine (qall16_any _ _ _ _ hq).mono ?_
          rintro e wt ⟨bv, rfl, hall, hBt⟩
          have hq := hq.below hBt
          have hB := hB.trans (hBt.mono hB.size)
          obtain ⟨Aa, ca, rfl⟩ := rqs_shape hall
          have hI12 : ¬ (L.length : Int) > 12 := by omega
          clear hBt
          go_wp2
          go_loopw [49] (fun jv wr => ∃ j : Nat, j ≤ L.length ∧ jv = .int .i64 j ∧ Below wt.heap.size wt wr) (fun j _ => L.length - (intOf j).toNat)
          case atStart => exact ⟨0, Nat.zero_le _, rfl, Below.refl _ _⟩
          case round =>
            obtain ⟨j, hj, rfl, hBj⟩ := hrel
            by_cases hjl : j < L.length
            · have hIj : (j : Int) < (L.length : Int) := by omega
              obtain ⟨y, hy⟩ : ∃ y, L[j]? = some y := ⟨_, List.getElem?_eq_getElem hjl⟩
              obtain ⟨ga, oa, hAa⟩ : ∃ gl offl, Aa = some ⟨gl, offl, none⟩ := by
                obtain ⟨gl, offl, c', h⟩ := rqs_spot hall (by omega)
                injection h with h _ _
                exact ⟨gl, offl, h⟩
              subst hAa
              obtain ⟨uy, hry, _⟩ := rqs_el hall hy
              have Y0 := hid (fun X (h : Below wt.heap.size wt X) => (by have := hry 0 _ rfl; exact (h.cell (lt_of_cell this)).trans this : X.cell? ⟨ga, oa + j * 7, none⟩ = some (.int .i64 y.c)))
              have Y1 := hid (fun X (h : Below wt.heap.size wt X) => (by have := hry 1 _ rfl; exact (h.cell (lt_of_cell this)).trans this : X.cell? ⟨ga, oa + j * 7 + 1, none⟩ = some (.int .i64 y.s)))
              have Hy := hid hy
              clear hy hry
              go_wp2
              go_loopw [53] (fun kv wr => ∃ k : Nat, k ≤ j ∧ kv = .int .i64 k ∧ Below wt.heap.size wt wr) (fun k _ => j - (intOf k).toNat)
              case atStart => exact ⟨0, Nat.zero_le _, rfl, hBj⟩
              case round =>
                clear hBj
                obtain ⟨k, hk, rfl, hBk⟩ := hrel
                by_cases hkl : k < j
                · have hIk : (k : Int) < (j : Int) := by omega
                  obtain ⟨z, hz⟩ : ∃ z, L[k]? = some z := ⟨_, List.getElem?_eq_getElem (by omega)⟩
                  obtain ⟨uz, hrz, _⟩ := rqs_el hall hz
                  have z0 : wr.cell? ⟨ga, oa + k * 7, none⟩ = some (.int .i64 z.c) := by have := hrz 0 _ rfl; exact (hBk.cell (lt_of_cell this)).trans this
                  have z1 : wr.cell? ⟨ga, oa + k * 7 + 1, none⟩ = some (.int .i64 z.s) := by have := hrz 1 _ rfl; exact (hBk.cell (lt_of_cell this)).trans this
                  have y0 := Y0.out _ hBk
                  have y1 := Y1.out _ hBk
                  have hon := hid (fun hc => one_at hqq.out Hy.out hz hkl hc)
                  have hIl : (k : Int) < (L.length : Int) := by omega
                  clear hz hrz
                  by_cases n1 : y.c = z.c
                  · have n3 : (y.s == z.s) = false := beq_eq_false_iff_ne.2 (hon.out n1)
                    rw [n1] at y0
                    clear hon n1
                    go_upto_region 23 with (fail)
                    go_quiet (fail)
                    go_wp2
                    go_roundw
                    case rel => exact ⟨k + 1, by omega, by go_num, by first | exact hBk | exact bel_drewN hBk _⟩
                    case measure => simp [intOf]; omega
                  · have n3 : (y.c == z.c) = false := beq_eq_false_iff_ne.2 n1
                    clear hon
                    go_upto_region 23 with (fail)
                    go_quiet (fail)
                    go_wp2
                    go_roundw
                    case rel => exact ⟨k + 1, by omega, by go_num, by first | exact hBk | exact bel_drewN hBk _⟩
                    case measure => simp [intOf]; omega
                · have hk' : k = j := by omega
                  subst hk'
                  have hIk : ¬ (k : Int) < (k : Int) := by omega
                  go_wp2
                  go_roundw
                  case rel => exact ⟨k + 1, by omega, by go_num, hBk⟩
                  case measure => simp [intOf]; omega
            · have hj' : j = L.length := by omega
              subst hj'
              have hIj : ¬ (L.length : Int) < (L.length : Int) := by omega
              have hq2 := hq.below hBj
              have hB2 := hB.trans (hBj.mono hB.size)
              go_wp2
              go_roundw
              case rel => exact ⟨i + 1, _, L, by omega, by go_num, hq2, hid HMM, hB2⟩
              case measure => simp [intOf]; omega
        · have n2 : (kk == 2) = false := beq_eq_false_iff_ne.2 k2
          have hr1 := b6.range 1 lr hreq.out
          go_wp2_with (refine wp_ld 32 (.tmp 31) rfl rfl rfl hr1 Try.underlying32 rfl (by rw [Lrq.out]; exact sizeRq16) ?_)
          refine (hadd.out _ _ _ hq HM.out (Hu.out _ hB)).mono ?_
          rintro e w8 ⟨rfl, M8, hp⟩
          have hwas := hp.rd hwas
          obtain ⟨hB, HMM⟩ := hp.bel hB HM.out hB.size
          have hqi := hq.qin.len
          have hq := hp.q
          have hne := hid (addL_e (l := q) (r := x.r))
          obtain ⟨E, hE⟩ : ∃ E, E = addE q x.r := ⟨_, rfl⟩
          obtain ⟨L, hL⟩ : ∃ L, L = addL q x.r := ⟨_, rfl⟩
          rw [← hL] at hq hne
          rw [← hE] at hne ⊢
          clear hp hE hL hr1
          by_cases hE0 : E = 0
          · subst hE0
            clear hwas d0 hadd hdro hreq hlst hlen hone b6 H0 hne
            have hqq := hid hq.qin
            have hL12 := hq.qin.len
            go_wp2_with (fail)
            refine (qall16_any _ _ _ _ hq).mono ?_
            rintro e wt ⟨bv, rfl, hall, hBt⟩
            have hq := hq.below hBt
            have hB := hB.trans (hBt.mono hB.size)
            obtain ⟨Aa, ca, rfl⟩ := rqs_shape hall
            have hI12 : ¬ (L.length : Int) > 12 := by omega
            clear hBt
            go_wp2
            go_loopw [49] (fun jv wr => ∃ j : Nat, j ≤ L.length ∧ jv = .int .i64 j ∧ Below wt.heap.size wt wr) (fun j _ => L.length - (intOf j).toNat)
            case atStart => exact ⟨0, Nat.zero_le _, rfl, Below.refl _ _⟩
            case round =>
              obtain ⟨j, hj, rfl, hBj⟩ := hrel
              by_cases hjl : j < L.length
              · have hIj : (j : Int) < (L.length : Int) := by omega
                obtain ⟨y, hy⟩ : ∃ y, L[j]? = some y := ⟨_, List.getElem?_eq_getElem hjl⟩
                obtain ⟨ga, oa, hAa⟩ : ∃ gl offl, Aa = some ⟨gl, offl, none⟩ := by
                  obtain ⟨gl, offl, c', h⟩ := rqs_spot hall (by omega)
                  injection h with h _ _
                  exact ⟨gl, offl, h⟩
                subst hAa
                obtain ⟨uy, hry, _⟩ := rqs_el hall hy
                have Y0 := hid (fun X (h : Below wt.heap.size wt X) => (by have := hry 0 _ rfl; exact (h.cell (lt_of_cell this)).trans this : X.cell? ⟨ga, oa + j * 7, none⟩ = some (.int .i64 y.c)))
                have Y1 := hid (fun X (h : Below wt.heap.size wt X) => (by have := hry 1 _ rfl; exact (h.cell (lt_of_cell this)).trans this : X.cell? ⟨ga, oa + j * 7 + 1, none⟩ = some (.int .i64 y.s)))
                have Hy := hid hy
                clear hy hry
                go_wp2
                go_loopw [53] (fun kv wr => ∃ k : Nat, k ≤ j ∧ kv = .int .i64 k ∧ Below wt.heap.size wt wr) (fun k _ => j - (intOf k).toNat)
                case atStart => exact ⟨0, Nat.zero_le _, rfl, hBj⟩
                case round =>
                  clear hBj
                  obtain ⟨k, hk, rfl, hBk⟩ := hrel
                  by_cases hkl : k < j
                  · have hIk : (k : Int) < (j : Int) := by omega
                    obtain ⟨z, hz⟩ : ∃ z, L[k]? = some z := ⟨_, List.getElem?_eq_getElem (by omega)⟩
                    obtain ⟨uz, hrz, _⟩ := rqs_el hall hz
                    have z0 : wr.cell? ⟨ga, oa + k * 7, none⟩ = some (.int .i64 z.c) := by have := hrz 0 _ rfl; exact (hBk.cell (lt_of_cell this)).trans this
                    have z1 : wr.cell? ⟨ga, oa + k * 7 + 1, none⟩ = some (.int .i64 z.s) := by have := hrz 1 _ rfl; exact (hBk.cell (lt_of_cell this)).trans this
                    have y0 := Y0.out _ hBk
                    have y1 := Y1.out _ hBk
                    have hon := hid (fun hc => one_at hqq.out Hy.out hz hkl hc)
                    have hIl : (k : Int) < (L.length : Int) := by omega
                    clear hz hrz
                    by_cases n1 : y.c = z.c
                    · have n3 : (y.s == z.s) = false := beq_eq_false_iff_ne.2 (hon.out n1)
                      rw [n1] at y0
                      clear hon n1
                      go_upto_region 23 with (fail)
                      go_quiet (fail)
                      go_wp2
                      go_roundw
                      case rel => exact ⟨k + 1, by omega, by go_num, by first | exact hBk | exact bel_drewN hBk _⟩
                      case measure => simp [intOf]; omega
                    · have n3 : (y.c == z.c) = false := beq_eq_false_iff_ne.2 n1
                      clear hon
                      go_upto_region 23 with (fail)
                      go_quiet (fail)
                      go_wp2
                      go_roundw
                      case rel => exact ⟨k + 1, by omega, by go_num, by first | exact hBk | exact bel_drewN hBk _⟩
                      case measure => simp [intOf]; omega
                  · have hk' : k = j := by omega
                    subst hk'
                    have hIk : ¬ (k : Int) < (k : Int) := by omega
                    go_wp2
                    go_roundw
                    case rel => exact ⟨k + 1, by omega, by go_num, hBk⟩
                    case measure => simp [intOf]; omega
              · have hj' : j = L.length := by omega
                subst hj'
                have hIj : ¬ (L.length : Int) < (L.length : Int) := by omega
                have hq2 := hq.below hBj
                have hB2 := hB.trans (hBj.mono hB.size)
                go_wp2
                go_roundw
                case rel => exact ⟨i + 1, _, L, by omega, by go_num, hq2, hid HMM, hB2⟩
                case measure => simp [intOf]; omega
          · have hE1 : (E == 0) = false := beq_eq_false_iff_ne.2 hE0
            have hE2 : (E != 0) = true := bne_iff_ne.2 hE0
            have hLq := hne.out hE0
            have hwas : Rd w8 (fun b => ¬ M8 b) (.slice Aw q.length cw) (rqs L) := by rw [hLq]; exact hwas
            have hL12 := hq.qin.len
            clear hE0 hne hLq
            go_wp2_with (fail)
            refine (qall16_any _ _ _ _ hq).mono ?_
            rintro e w9 ⟨bv, rfl, hbl, hB9⟩
            have hq := hq.below hB9
            have hwas := hwas.below hB9
            have hB := hB.trans (hB9.mono hB.size)
            obtain ⟨Ab, cb, rfl⟩ := rqs_shape hbl
            go_wp2_with (fail)
            refine (sameAllG_any _ _ _ _ _ _ hbl hwas (by omega)).mono ?_
            rintro e w10 ⟨rfl, hB10⟩
            have hq := hq.below hB10
            have hB := hB.trans (hB10.mono hB.size)
            clear hbl
            clear hwas d0 hadd hdro hreq hlst hlen hone b6 H0
            have hqq := hid hq.qin
            have hL12 := hq.qin.len
            go_wp2_with (fail)
            refine (qall16_any _ _ _ _ hq).mono ?_
            rintro e wt ⟨bv, rfl, hall, hBt⟩
            have hq := hq.below hBt
            have hB := hB.trans (hBt.mono hB.size)
            obtain ⟨Aa, ca, rfl⟩ := rqs_shape hall
            have hI12 : ¬ (L.length : Int) > 12 := by omega
            clear hBt
            go_wp2
            go_loopw [49] (fun jv wr => ∃ j : Nat, j ≤ L.length ∧ jv = .int .i64 j ∧ Below wt.heap.size wt wr) (fun j _ => L.length - (intOf j).toNat)
            case atStart => exact ⟨0, Nat.zero_le _, rfl, Below.refl _ _⟩
            case round =>
              obtain ⟨j, hj, rfl, hBj⟩ := hrel
              by_cases hjl : j < L.length
              · have hIj : (j : Int) < (L.length : Int) := by omega
                obtain ⟨y, hy⟩ : ∃ y, L[j]? = some y := ⟨_, List.getElem?_eq_getElem hjl⟩
                obtain ⟨ga, oa, hAa⟩ : ∃ gl offl, Aa = some ⟨gl, offl, none⟩ := by
                  obtain ⟨gl, offl, c', h⟩ := rqs_spot hall (by omega)
                  injection h with h _ _
                  exact ⟨gl, offl, h⟩
                subst hAa
                obtain ⟨uy, hry, _⟩ := rqs_el hall hy
                have Y0 := hid (fun X (h : Below wt.heap.size wt X) => (by have := hry 0 _ rfl; exact (h.cell (lt_of_cell this)).trans this : X.cell? ⟨ga, oa + j * 7, none⟩ = some (.int .i64 y.c)))
                have Y1 := hid (fun X (h : Below wt.heap.size wt X) => (by have := hry 1 _ rfl; exact (h.cell (lt_of_cell this)).trans this : X.cell? ⟨ga, oa + j * 7 + 1, none⟩ = some (.int .i64 y.s)))
                have Hy := hid hy
                clear hy hry
                go_wp2
                go_loopw [53] (fun kv wr => ∃ k : Nat, k ≤ j ∧ kv = .int .i64 k ∧ Below wt.heap.size wt wr) (fun k _ => j - (intOf k).toNat)
                case atStart => exact ⟨0, Nat.zero_le _, rfl, hBj⟩
                case round =>
                  clear hBj
                  obtain ⟨k, hk, rfl, hBk⟩ := hrel
                  by_cases hkl : k < j
                  · have hIk : (k : Int) < (j : Int) := by omega
                    obtain ⟨z, hz⟩ : ∃ z, L[k]? = some z := ⟨_, List.getElem?_eq_getElem (by omega)⟩
                    obtain ⟨uz, hrz, _⟩ := rqs_el hall hz
                    have z0 : wr.cell? ⟨ga, oa + k * 7, none⟩ = some (.int .i64 z.c) := by have := hrz 0 _ rfl; exact (hBk.cell (lt_of_cell this)).trans this
                    have z1 : wr.cell? ⟨ga, oa + k * 7 + 1, none⟩ = some (.int .i64 z.s) := by have := hrz 1 _ rfl; exact (hBk.cell (lt_of_cell this)).trans this
                    have y0 := Y0.out _ hBk
                    have y1 := Y1.out _ hBk
                    have hon := hid (fun hc => one_at hqq.out Hy.out hz hkl hc)
                    have hIl : (k : Int) < (L.length : Int) := by omega
                    clear hz hrz
                    by_cases n1 : y.c = z.c
                    · have n3 : (y.s == z.s) = false := beq_eq_false_iff_ne.2 (hon.out n1)
                      rw [n1] at y0
                      clear hon n1
                      go_upto_region 23 with (fail)
                      go_quiet (fail)
                      go_wp2
                      go_roundw
                      case rel => exact ⟨k + 1, by omega, by go_num, by first | exact hBk | exact bel_drewN hBk _⟩
                      case measure => simp [intOf]; omega
                    · have n3 : (y.c == z.c) = false := beq_eq_false_iff_ne.2 n1
                      clear hon
                      go_upto_region 23 with (fail)
                      go_quiet (fail)
                      go_wp2
                      go_roundw
                      case rel => exact ⟨k + 1, by omega, by go_num, by first | exact hBk | exact bel_drewN hBk _⟩
                      case measure => simp [intOf]; omega
                  · have hk' : k = j := by omega
                    subst hk'
                    have hIk : ¬ (k : Int) < (k : Int) := by omega
                    go_wp2
                    go_roundw
                    case rel => exact ⟨k + 1, by omega, by go_num, hBk⟩
                    case measure => simp [intOf]; omega
              · have hj' : j = L.length := by omega
                subst hj'
                have hIj : ¬ (L.length : Int) < (L.length : Int) := by omega
                have hq2 := hq.below hBj
                have hB2 := hB.trans (hBj.mono hB.size)
                go_wp2
                go_roundw
                case rel => exact ⟨i + 1, _, L, by omega, by go_num, hq2, hid HMM, hB2⟩
                case measure => simp [intOf]; omega
      · have hI : ¬ (i : Int) < (l.length : Int) := by omega
        have hBe := HB.out.trans (hB.mono HB.out.size)
        go_wp2
        go_ret
        exact ⟨rfl, hBe⟩
end Go.Proofs.Ytnpgloeldoiekaa
