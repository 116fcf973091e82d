/- B6: layer 16: QueueFormed. -/
import Derived.Test.YtnpgloeldoiekaaB5
import Derived.Test.YtnpgloeldoiekaaQC
namespace Go.Proofs.Ytnpgloeldoiekaa
open Go.RowKit Go.V
set_option maxRecDepth 100000 in
set_option maxHeartbeats 16000000 in
theorem queueFormed_law (l : List Aq) (a : List Rp) (v : Value) (F : Nat → Prop) (w : World) (hl : Rd w F v (wds aqD l)) (hin : ∀ x ∈ l, AqIn x) (ha : a.length = 6) :
    Calls Try.prog 4 #[v, .agg (ras a).toArray] w fun e w' => e = .returned (.bool true) ∧ Below w.heap.size w w' := by
  have hlo := hid (fun X (h : Rd X (fun b => b < w.heap.size) v (wds aqD l)) => long16_any l v _ X h)
  have hl := hl.weak (F' := fun b => b < w.heap.size) (fun b hb _ => hb)
  obtain ⟨A, c, rfl, _, _⟩ := wds_shape hl
  have Hin := hid hin
  clear hin
  have b3 := Blk.new' w 37 (ras a)
  have hB : Below w.heap.size w (w.alloc (.cells (ras a).toArray 37)) := (Below.refl _ _).alloc (Nat.le_refl _) _
  have Has := hid (fun (ci : Nat) (p : Rp) (h : a[ci]? = some p) => ras_s h)
  have hbat := hid (fun (qv : Value) (M : Nat → Prop) (q : List Rq) (X : World) (h : QX X qv M q) => qbatch16_any qv M q a X h ha)
  have hdro := hid (fun (qv : Value) (M : Nat → Prop) (q : List Rq) (X : World) (h : QX X qv M q) => qdrop16_any qv M q a X h ha)
  have hrdr := hid (fun (q : List Rq) (y : Value) (F' : Nat → Prop) (X : World) (h1 : Rd X F' y (rqs q)) (hi : QIn q) => rdrop16_any q a y F' X h1 hi ha)
  have lra : (ras a).length = 30 := by rw [len_ras, ha]
  obtain ⟨la, hla⟩ : ∃ q, q = ras a := ⟨_, rfl⟩
  rw [← hla] at b3 hB Has hbat hdro hrdr lra ⊢
  have Lra := hid lra
  clear hla lra
  obtain ⟨Z, hZ⟩ : ∃ Z, Z = longA l := ⟨_, rfl⟩
  rw [← hZ] at hlo
  have HZ := hid hZ
  clear hZ
  go_enter Try.func4, Try.ntmps4
  go_wp2_with (fail)
  obtain ⟨w0, hw0⟩ : ∃ x, x = w.alloc (.cells la.toArray 37) := ⟨_, rfl⟩
  rw [← hw0] at b3 hB ⊢
  clear hw0
  obtain ⟨g3, hg3⟩ : ∃ g, g = w.heap.size := ⟨_, rfl⟩
  rw [← hg3] at b3 ⊢
  clear hg3
  refine (wakes16_any _).mono ?_
  rintro e w1 ⟨rfl, hB1⟩
  have b3 := b3.below hB1
  have hB := hB.trans (hB1.mono hB.size)
  go_wp2_with (fail)
  refine (hlo.out _ (hl.below hB)).mono ?_
  rintro e w2 ⟨rfl, hB2⟩
  have b3 := b3.below hB2
  have hB := hB.trans (hB2.mono hB.size)
  clear hlo hB1 hB2
  cases Z with
  | true =>
    clear HZ
    go_wp2
    go_ret
    exact ⟨rfl, hB⟩
  | false =>
    obtain ⟨h60, h2k⟩ := longA_out HZ.out.symm
    have H2k := hid h2k
    have Hl0 := hid (hl.below hB)
    have HB := hid hB
    have H3 := hid b3
    have hwn := hB.size
    clear HZ h2k hl hB b3
    go_wp2_with (fail)
    refine (qnew16_any _).mono ?_
    rintro e w3 ⟨qv, M3, rfl, hq3, hM3, hB3⟩
    have Hq := hid hq3
    have HM := hid hM3
    clear hq3 hM3
    go_wp2
    go_loopw [18] (fun iv wr => ∃ (i : Nat) (M : Nat → Prop) (q : List Rq), i ≤ l.length ∧ iv = .int .i64 i ∧ QX wr qv M q ∧ Hid (∀ b, M b → w2.heap.size ≤ b) ∧ Hid (∀ r ∈ q, in64 r.a ∧ in64 r.b) ∧ Below w2.heap.size w2 wr) (fun i _ => l.length - (intOf i).toNat)
    case atStart => exact ⟨0, M3, [], Nat.zero_le _, rfl, Hq.out, HM, hid (fun r hr => by simp at hr), hB3⟩
    case round =>
      clear Hq HM hB3
      obtain ⟨i, M, q, hi, rfl, hq, HM, Hq6, hB⟩ := hrel
      by_cases hlt : i < l.length
      · have hI : (i : Int) < (l.length : Int) := by omega
        obtain ⟨x, hxx⟩ : ∃ x, l[i]? = some x := ⟨_, List.getElem?_eq_getElem hlt⟩
        have hg2 := H2k.out x (List.mem_of_getElem? hxx)
        have hxi := hid (Hin.out x (List.mem_of_getElem? hxx))
        obtain ⟨g, off, cs, rfl, _, hrg0, hel⟩ := wd_el Hl0.out hxx
        obtain ⟨u, rfl, hu0⟩ := aq_open hel
        have hrg : wr.rangeAt g (off + i * 38) (x.l u) := fun j y hy => (hB.cell (lt_of_cell (hrg0 j y hy))).trans (hrg0 j y hy)
        have hu : ∀ X, Below w2.heap.size w2 X → Rd X (fun b => b < w.heap.size) u (bys x.r.g) := fun X h => hu0.below h
        clear hrg0
        obtain ⟨Au, cu, rfl⟩ := Rd.shape hu0
        clear hu0
        have hreq := hid (aq_req x (.slice Au x.r.g.length cu))
        have hlen := hid (len_aq x (.slice Au x.r.g.length cu))
        have hone := hid (aq_one x Au x.r.g.length cu)
        have hadd := hid (fun (M : Nat → Prop) (q : List Rq) (X : World) (h : QX X qv M q) (hM : ∀ b, M b → w2.heap.size ≤ b) (hu : Rd X (fun b => b < w.heap.size) (.slice Au x.r.g.length cu) (bys x.r.g)) => qadd16_any qv M q x.r (.slice Au x.r.g.length cu) _ X h hu (fun b hb h' => by have := hM b h'; omega) hxi.out.r hg2)
        have lrq : (x.r.l (.slice Au x.r.g.length cu)).length = 7 := rfl
        obtain ⟨lx, hlx⟩ : ∃ q, q = x.l (.slice Au x.r.g.length cu) := ⟨_, rfl⟩
        obtain ⟨lr, hlr⟩ : ∃ q, q = x.r.l (.slice Au x.r.g.length cu) := ⟨_, rfl⟩
        rw [← hlx] at hrg hreq hlen hone
        rw [← hlr] at hreq hadd lrq
        have Lrq := hid lrq
        have Hu := hid hu
        clear hlx hlr lrq hel hxx hu hg2
        go_wp2_with (first | refine wp_ixa 22 _ _ rfl rfl rfl (i := i) rfl Try.underlying22 hlt sizeAq ?_ | refine wp_ld 39 (.tmp 20) rfl rfl rfl hrg Try.underlying39 rfl (by rw [hlen.out]; exact sizeAq) ?_ | (refine wp_newst 39 7 (.tmp 21) rfl rfl rfl rfl rfl rfl zeroAq (l := lx) rfl (by rw [hlen.out]; rfl) (by rw [hlen.out]; exact sizeAq) hone.out (by simp [Act.put]) ?_; intro w6 b6 hB6 hs6; refine wp_stop ?_))
        have hq := hq.below hB6
        have hB := hB.trans (hB6.mono hB.size)
        obtain ⟨g6, hg6e⟩ : ∃ g, g = wr.heap.size := ⟨_, rfl⟩
        rw [← hg6e] at b6 ⊢
        clear hg6e hs6 hB6 hrg
        have hr1 := b6.range 1 lr hreq.out
        refine wp_go ?_
        go_wp2_with (refine wp_ld 32 (.tmp 23) rfl rfl rfl hr1 Try.underlying32 rfl (by rw [Lrq.out]; exact sizeRq16) ?_)
        refine (hadd.out _ _ _ hq HM.out (Hu.out _ hB)).mono ?_
        rintro e w7 ⟨rfl, M7, hp⟩
        obtain ⟨hB, HMM⟩ := hp.bel hB HM.out hB.size
        have hq := hp.q
        have Hq7 : Hid (∀ r ∈ addL q x.r, in64 r.a ∧ in64 r.b) := fun r hr => by
          unfold addL at hr
          split at hr
          · rcases List.mem_append.1 hr with hr | hr
            · exact Hq6.out r hr
            · rw [List.mem_singleton.1 hr]; exact hxi.out.r
          · exact Hq6.out r hr
        obtain ⟨E, hE⟩ : ∃ E, E = addE q x.r := ⟨_, rfl⟩
        obtain ⟨L, hL⟩ : ∃ L, L = addL q x.r := ⟨_, rfl⟩
        rw [← hL] at hq Hq7
        rw [← hE]
        clear hE hL hp hr1 b6 hadd hreq hlen hone
        go_wp2
        go_roundw
        case rel => exact ⟨i + 1, M7, L, by omega, by go_num, hq, hid HMM, Hq7, hB⟩
        case measure => simp [intOf]; omega
      · have hI : ¬ (i : Int) < (l.length : Int) := by omega
        have b3 := H3.out.below hB
        have hg3w := H3.out.lt
        have hqi := hid hq.qin
        have hq12 := hq.qin.len
        have hwr := hB.size
        clear hi hlt H3 Hl0 H2k Hin
        go_wp2_with (refine wp_ld 37 (.tmp 3) rfl rfl rfl b3.whole Try.underlying37 rfl (by rw [Lra.out]; exact sizeLast16) ?_)
        refine (hbat.out _ _ _ _ hq).mono ?_
        rintro e w8 ⟨bv, rfl, hbl, hB8⟩
        have b3 := b3.below hB8
        have hB := hB.trans (hB8.mono hB.size)
        have hbi := hid (bin_all a q)
        have hbf := hid (fun h => bat_fm (a := a) hqi.out h)
        obtain ⟨B, hBq⟩ : ∃ B, B = batQ a q := ⟨_, rfl⟩
        rw [← hBq] at hbl hbi hbf
        clear hBq hB8
        obtain ⟨Ab, cb, rfl⟩ := rqs_shape hbl
        have hb4 := hbi.out.len
        go_wp2
        go_loopw [32] (fun jv wr => ∃ j : Nat, j ≤ B.length ∧ jv = .int .i64 j ∧ Below w8.heap.size w8 wr) (fun j _ => B.length - (intOf j).toNat)
        case atStart => exact ⟨0, Nat.zero_le _, rfl, Below.refl _ _⟩
        case round =>
          obtain ⟨j, hj, rfl, hBj⟩ := hrel
          by_cases hjl : j < B.length
          · have hI2 : (j : Int) < (B.length : Int) := by omega

            obtain ⟨r, hr⟩ : ∃ r, B[j]? = some r := ⟨_, List.getElem?_eq_getElem hjl⟩
            have hLr := hbl.below hBj
            obtain ⟨gl, offl, hAl⟩ : ∃ gl offl, Ab = some ⟨gl, offl, none⟩ := by
              obtain ⟨gl, offl, c', h⟩ := rqs_spot hLr (by omega)
              injection h with h _ _
              exact ⟨gl, offl, h⟩
            subst hAl
            obtain ⟨u, hru, hu⟩ := rqs_el hLr hr
            obtain ⟨Au, cu, rfl⟩ := Rd.shape hu
            have hfm := fm_in ((fun r hr => hqi.out.fm r (hbi.out.mem r hr).1) r (List.mem_of_getElem? hr))
            obtain ⟨ci, hci⟩ : ∃ ci : Nat, r.c = (ci : Int) := ⟨r.c.toNat, by omega⟩
            have hci6 : ci < 6 := by omega
            obtain ⟨p, hp⟩ : ∃ p, a[ci]? = some p := ⟨_, List.getElem?_eq_getElem (by omega)⟩
            have hdu := due_at hci hp
            have hI6 : (ci : Int) < 6 := by omega
            have hone := hid (one_rq16 r Au r.g.length cu)
            have h0 : (r.l (.slice Au r.g.length cu))[0]? = some (.int .i64 (ci : Int)) := by rw [← hci]; rfl
            have h1 : (r.l (.slice Au r.g.length cu))[1]? = some (.int .i64 r.s) := rfl
            have lrq : (r.l (.slice Au r.g.length cu)).length = 7 := rfl
            obtain ⟨lr, hlr⟩ : ∃ q, q = r.l (.slice Au r.g.length cu) := ⟨_, rfl⟩
            rw [← hlr] at hru hone h0 h1 lrq
            have Lrq := hid lrq
            have H0 := hid h0
            have H1 := hid h1
            have Hlr := hid hlr
            have Hr := hid hr
            have Hdu := hid hdu
            have Hci := hid hci
            have Hfm := hid hfm
            have Hps := Has.out ci p hp
            clear hlr lrq h0 h1 hr hdu hci hp hfm
            go_wp2_with (first | refine wp_ixa 27 _ _ rfl rfl rfl (i := j) rfl Try.underlying27 hjl sizeRq16 ?_ | refine wp_ld 32 (.tmp 34) rfl rfl rfl hru Try.underlying32 rfl (by rw [Lrq.out]; exact sizeRq16) ?_ | (refine wp_newst 32 10 (.tmp 35) rfl rfl rfl rfl rfl rfl zeroRq16 (l := lr) rfl (by rw [Lrq.out]; rfl) (by rw [Lrq.out]; exact sizeRq16) hone.out (by simp [Act.put]) ?_; intro w9 b10 hB9 hs9; refine wp_stop ?_))
            have hBj := hBj.trans (hB9.mono hBj.size)
            have hu := hu.below hB9
            obtain ⟨g10, hg10⟩ : ∃ g, g = wr.heap.size := ⟨_, rfl⟩
            rw [← hg10] at b10 ⊢
            clear hg10 hs9 hru hone hLr hB9
            have r0 := b10.cellAt 0 _ H0.out
            have r1 := b10.cellAt 1 _ H1.out
            have q3 : w9.cell? ⟨g3, ci * 5 + 1, none⟩ = some (.int .i64 p.s) := (b3.below hBj).cellAt _ _ Hps
            clear Hps
            refine wp_go ?_
            have hd := (hbi.out.mem r (List.mem_of_getElem? Hr.out)).2
            rw [Hdu.out] at hd
            have hlt2 : p.s < r.s := of_decide_eq_true hd
            have hle : ¬ r.s ≤ p.s := by omega
            have dle : decide (r.s ≤ p.s) = false := decide_eq_false hle
            clear hd hlt2
            go_upto_region 15 with (fail)
            go_quiet (fail)
            go_wp2
            go_roundw
            case rel => exact ⟨j + 1, by omega, by go_num, by first | exact hBj | exact bel_drewN hBj _⟩
            case measure => simp [intOf]; omega
          · have hj' : j = B.length := by omega
            subst hj'
            have hI2 : ¬ (B.length : Int) < (B.length : Int) := by omega
            have hBe := HB.out.trans ((hB.trans (hBj.mono hB.size)).mono HB.out.size)
            by_cases hb0 : B.length = 0
            · have hb0' : ((B.length : Int) == 0) = true := by rw [hb0]; rfl
              clear hb0
              go_wp2
              go_ret
              exact ⟨rfl, hBe⟩
            · have hb0' : ((B.length : Int) == 0) = false := beq_eq_false_iff_ne.2 (by omega)
              have hfb := hid (rfbatch_any _ B _ wr (hbl.below hBj))
              have hft := hbf.out (by omega)
              rw [hft] at hfb
              go_wp2_with (fail)
              refine hfb.out.mono ?_
              rintro e w10 ⟨rfl, hB10⟩
              go_wp2
              go_ret
              exact ⟨rfl, hBe.trans (hB10.mono hBe.size)⟩

end Go.Proofs.Ytnpgloeldoiekaa
