/- AC: layer 15: contracts of execs over the landed code: Do. -/
import Derived.Test.YtfjgfaccfjdklaaAN
namespace Go.Proofs.Ytfjgfaccfjdklaa
open Go.RowKit Go.V
set_option maxRecDepth 100000 in
set_option maxHeartbeats 16000000 in
theorem edo15_any (W : Wo) (l : List Rq) (lv : Value) (F : Nat → Prop) (w : World) (hW : WoIn W) (hc : OKC W.c) (hs : -4611686018427387904 ≤ W.s ∧ W.s ≤ 4611686018427387904) (hl : Rd w F lv (rqs l)) (ho : ∀ r ∈ l, in64 r.a ∧ in64 r.b) (hll : l.length ≤ 1000) :
    Calls Try.prog 9 #[.agg W.l.toArray, lv] w fun e w' => ∃ W' rv, e = .returned (.tuple #[.agg W'.l.toArray, rv]) ∧ WoIn W' ∧ OKC W'.c ∧ W'.e = (doW W.e l).1 ∧ (idle W.e l → W'.c = W.c) ∧ Rd w' (fun b => w.heap.size ≤ b) rv (wds rpD (doW W.e l).2) ∧ Below w.heap.size w w' := by
  obtain ⟨A, cp, rfl⟩ := rqs_shape hl
  have hl := hl.weak (F' := fun b => F b ∧ b < w.heap.size) (fun b hb hF => ⟨hF, hb⟩)
  obtain ⟨W0, hW0, b2, b4, hB⟩ := alloc2 w 38 38 W.l zWo.l
  have hs1 : i64s (W.s + 1) := by unfold i64s; omega
  have hs2 : i64s (W.s + 1 + 1) := by unfold i64s; omega
  have HL := hid (len_wo hW)
  have Hbeg := hid (fun X => begun15_any W X hW hs1)
  have Hbt := hid (fun c h1 h2 h3 => bt_beg (c := c) hW hs1 h1 h2 h3)
  have Hend := hid (fun V h => bt_end (V := V) (l := l) h hc)
  have Ho := hid ho
  have Hs2 := hid hs2
  obtain ⟨E, hE⟩ : ∃ E, E = W.e := ⟨_, rfl⟩
  obtain ⟨T, hT⟩ : ∃ T, T = batW E.v (E.s + 1) (begW E) := ⟨_, rfl⟩
  have HT : Hid (∀ i r, l[i]? = some r → T (l.take (i + 1)) = stepW E.v (E.s + 1) (T (l.take i)) r) := by
    intro i r h
    rw [hT]
    exact bat_next h
  have HTl : Hid (T (l.take 0) = begW E) := by show _ = _; rw [hT]; rfl
  have HTe : Hid ((doW W.e l).2 = (T l).o) := by show _ = _; rw [hT, hE]; rfl
  have Hend : Hid (∀ V, BtI E V (T l) → V.e = (doW W.e l).1 ∧ (idle W.e l → V.c = W.c)) := by
    intro V h
    rw [hT, hE] at h
    exact Hend.out V h
  have Hbt : Hid (∀ c, ClIn c → nmF c = nmF W.c → ZC c → BtI E (begC W c) (begW E)) := by
    intro c h1 h2 h3
    rw [hE]
    exact Hbt.out c h1 h2 h3
  have HEs : Hid (E.s = W.s) := by show _ = _; rw [hE]; rfl
  have hol : ∀ i, (T (l.take i)).o.length ≤ i := by
    intro i
    induction i with
    | zero => rw [HTl.out]; exact Nat.le_refl _
    | succ i ih =>
      rcases Nat.lt_or_ge i l.length with h | h
      · rw [HT.out i _ (List.getElem?_eq_getElem h)]
        unfold stepW
        split
        · show (_ ++ [_]).length ≤ _
          rw [List.length_append]
          show _ + 1 ≤ _
          omega
        · omega
      · rw [List.take_of_length_le (by omega)]
        rw [List.take_of_length_le (by omega)] at ih
        omega
  have Hol := hid hol
  clear hol hT hE hW hs hs1 hs2 ho
  go_enter Try.func9, Try.ntmps9
  go_wp2_with (first | (refine wp_new 38 rfl rfl zeroWo ?_; refine wp_stop ?_))
  rw [← hW0]
  clear hW0
  obtain ⟨g4, hg4⟩ : ∃ g, g = w.heap.size + 1 := ⟨_, rfl⟩
  rw [← hg4] at b4 ⊢
  obtain ⟨g2, hg2⟩ : ∃ g, g = w.heap.size := ⟨_, rfl⟩
  rw [← hg2] at b2 ⊢
  have hw2 : w.heap.size ≤ g2 := by omega
  have h24 : g2 < g4 := by omega
  clear hg2 hg4
  refine wp_go ?_
  go_wp2_with (refine wp_ld 38 (.tmp 2) rfl rfl rfl b2.whole Try.underlying38 rfl (by rw [HL.out]; exact sizeW15) ?_)
  refine (Hbeg.out _).mono ?_
  rintro e w1 ⟨c', rfl, hc1, hn1, hz1, hB1⟩
  have b2 := b2.below hB1
  have b4 := b4.below hB1
  have hB := hB.trans (hB1.mono hB.size)
  have hbi := Hbt.out c' hc1 hn1 hz1
  obtain ⟨V0, hV0⟩ : ∃ V, V = begC W c' := ⟨_, rfl⟩
  rw [← hV0] at hbi ⊢
  clear hV0 hc1 hn1 hz1 hB1 Hbt Hbeg
  have HLV := hid (len_wo hbi.inn)
  have HoV := hid (one_wo V0)
  rw [← HTl.out] at hbi
  have Hbi := hid hbi
  clear hbi
  go_wp2_with (first | (refine wp_st 38 (.tmp 2) (.tmp 11) rfl rfl rfl (f := 0) rfl (l := V0.l) rfl b2 (by rw [HLV.out, HL.out]; omega) (by rw [HLV.out]; exact sizeW15) HoV.out ?_; intro w2 k2 G2; refine wp_stop ?_))
  have k2 := blk_all k2 (by rw [HLV.out, HL.out]; omega)
  have b4 := b4.keep (G2.block _ b4.lt (by intro e; injection e with e; omega))
  have hB := hB.grown G2 hB.size (by intro k hk; injection hk with hk; omega)
  have hl2 := hl.below hB
  have h42 := b4.lt
  clear G2 b2
  have hnil := World.ownsRow_nil w2 w2.heap.size 35 5
  have Ho0 : Hid ((T (l.take 0)).o = []) := by show _ = _; rw [HTl.out]; rfl
  refine wp_go ?_
  go_wp2
  go_loopw [6, 14] (fun rv iv wr => ∃ (i : Nat) (V : Wo) (xs : List Value), i ≤ l.length ∧ iv = .int .i64 i ∧ Blk wr g2 38 V.l ∧ Hid (BtI E V (T (l.take i))) ∧ wr.ownsRow w2.heap.size 35 5 rv (T (l.take i)).o.length xs ∧ WdX wr nob rpD (T (l.take i)).o xs ∧ Ch (fun y => y = g2) w2 wr) (fun _ i _ => l.length - (intOf i).toNat)
  case atStart => exact ⟨0, V0, [], by omega, rfl, k2, Hbi, by rw [Ho0.out]; exact hnil, by rw [Ho0.out]; rfl, Ch.refl _ _⟩
  case round =>
    clear k2 hnil Ho0 Hbi HLV HoV
    obtain ⟨i, V, xs, hi, rfl, k2, Hbi, hown, hX, hC⟩ := hrel
    have hBw := Ch.below_of hB hC (fun k hk => by omega) hB.size
    have HLV := hid (len_wo Hbi.out.inn)
    have HoV := hid (one_wo V)
    have b4r := b4.ch hC (by omega)
    have hoi := Hol.out i
    by_cases hlt : i < l.length
    · have hI : (i : Int) < (l.length : Int) := by omega
      obtain ⟨r, hr⟩ : ∃ r, l[i]? = some r := ⟨_, List.getElem?_eq_getElem hlt⟩
      have hlr := hl.below hBw
      obtain ⟨gl, offl, hAl⟩ : ∃ gl offl, A = some ⟨gl, offl, none⟩ := by
        obtain ⟨gl, offl, c', h⟩ := rqs_spot hlr (by omega)
        injection h with h _ _
        exact ⟨gl, offl, h⟩
      subst hAl
      obtain ⟨u, hru, hu⟩ := rqs_el hlr hr
      obtain ⟨Au, cu, rfl⟩ := Rd.shape hu
      have hinr := Ho.out r (List.mem_of_getElem? hr)
      have HT1 := hid (HT.out i r hr)
      have hor := one_rqd r Au r.g.length cu
      have Hdue := hid (fun X => (show Calls Try.prog 11 #[.agg V.l.toArray, .agg (r.l (.slice Au r.g.length cu)).toArray] X (fun e w' => e = .returned (.bool (dueR V.a r)) ∧ Below X.heap.size X w') from due15_any V r Au r.g.length cu X Hbi.out.inn))
      have hc0 : (r.l (.slice Au r.g.length cu))[0]? = some (.int .i64 r.c) := rfl
      have hc1 : (r.l (.slice Au r.g.length cu))[1]? = some (.int .i64 r.s) := rfl
      have hc2 : ∀ j v, ((okR r).l)[j]? = some v → (r.l (.slice Au r.g.length cu))[2 + j]? = some v := fun j v hv => by
        match j with
        | 0 => exact hv
        | 1 => exact hv
        | 2 => exact hv
        | 3 => exact hv
        | j + 4 => simp [Ok.l] at hv
      have hrl : (r.l (.slice Au r.g.length cu)).length = 7 := rfl
      obtain ⟨lr, hlr'⟩ : ∃ q, q = r.l (.slice Au r.g.length cu) := ⟨_, rfl⟩
      rw [← hlr'] at hru hor Hdue hc0 hc1 hc2 hrl
      have Hor := hid hor
      have Hc0 := hid hc0
      have Hc1 := hid hc1
      have Hc2 := hid hc2
      have Hrl := hid hrl
      have Hin := hid hinr
      clear hlr' hor hc0 hc1 hc2 hrl hu hr hinr hlr
      go_wp2_with (first | refine wp_ixa 22 _ _ rfl rfl rfl (i := i) rfl Try.underlying22 hlt sizeQd15 ?_ | refine wp_ld 47 (.tmp 16) rfl rfl rfl hru Try.underlying47 rfl (by rw [Hrl.out]; exact sizeQd15) ?_ | (refine wp_newst 47 8 (.tmp 17) rfl rfl rfl rfl rfl rfl zeroQd15 (l := lr) rfl (by rw [Hrl.out]; rfl) (by rw [Hrl.out]; exact sizeQd15) Hor.out (by simp [Act.put]) ?_; intro w3 b8 hB3 hs3; refine wp_stop ?_))
      have k2 := k2.below hB3
      have b4r := b4r.below hB3
      have hrow := hown.lt
      have hown := own_bel hown hB3
      have hX := wdX_any (w' := w3) hX
      have hC3 := hC.belowR hB3
      have hw28 : w2.heap.size ≤ wr.heap.size := hC.size
      obtain ⟨g8, hg8⟩ : ∃ g, g = wr.heap.size := ⟨_, rfl⟩
      rw [← hg8] at b8 hw28 hs3 hrow ⊢
      have Hrow := hid hrow
      clear hrow
      clear hB3 hg8 hC hBw
      refine wp_go ?_
      go_wp2_with (first | refine wp_ld 38 (.tmp 2) rfl rfl rfl k2.whole Try.underlying38 rfl (by rw [HLV.out]; exact sizeW15) ?_ | refine wp_ld 47 (.tmp 8) rfl rfl rfl b8.whole Try.underlying47 rfl (by rw [Hrl.out]; exact sizeQd15) ?_)
      refine (Hdue.out _).mono ?_
      rintro e w4 ⟨rfl, hB4⟩
      have k2 := k2.below hB4
      have b4r := b4r.below hB4
      have b8 := b8.below hB4
      have hown := own_bel hown hB4
      have hX := wdX_any (w' := w4) hX
      have hC4 := hC3.belowR hB4
      have hs4 := hB4.size
      clear hB4 hC3 Hdue
      cases hd : dueR V.a r with
      | false =>
        have Hn := hid (show T (l.take (i + 1)) = T (l.take i) by rw [HT1.out]; exact bt_not Hbi.out hd)
        clear hd
        go_wp2
        go_roundw
        case rel => exact ⟨i + 1, V, xs, by omega, by go_num, k2, by rw [Hn.out]; exact Hbi, by rw [Hn.out]; exact hown, by rw [Hn.out]; exact hX, hC4⟩
        case measure => simp [intOf]; omega
      | true =>
        have hdr := due_rgt hd
        have hok := ok_in hd Hin.out
        have Hdn := hid (fun X => done15_any V (okR r) X Hbi.out.inn hok (by have := Hbi.out.s; rw [this, HEs.out]; exact Hs2.out) (do_q Hbi.out.inn.c hok))
        have Hst := hid (fun V' q h => bt_due Hbi.out hd (V := V') (q := q) h)
        obtain ⟨j, hj⟩ : ∃ j : Nat, r.c = (j : Int) := ⟨r.c.toNat, by omega⟩
        have hj6 : j < 6 := by omega
        have Hj := hid hj
        clear hd hok hdr hj
        have hor := b8.range 2 (okR r).l Hc2.out
        go_wp2_with (first | (refine wp_new 33 rfl rfl zeroRs ?_; refine wp_stop ?_))
        have b9 := Blk.new' w4 33 (rvs (false, 0))
        have hB5 : Below w4.heap.size w4 (w4.alloc (.cells (rvs (false, 0)).toArray 33)) := (Below.refl _ _).alloc (Nat.le_refl _) _
        have h89 : g8 < w4.heap.size := b8.lt
        obtain ⟨w5, hw5⟩ : ∃ x, x = w4.alloc (.cells (rvs (false, 0)).toArray 33) := ⟨_, rfl⟩
        rw [← hw5] at b9 hB5 ⊢
        have k2 := k2.below hB5
        have b4r := b4r.below hB5
        have b8 := b8.below hB5
        have hown := own_bel hown hB5
        have hX := wdX_any (w' := w5) hX
        have hC5 := hC4.belowR hB5
        obtain ⟨g9, hg9⟩ : ∃ g, g = w4.heap.size := ⟨_, rfl⟩
        rw [← hg9] at b9 h89 ⊢
        clear hw5 hB5 hC4 hg9 hor
        have hor := b8.range 2 (okR r).l Hc2.out
        refine wp_go ?_
        go_wp2_with (first | refine wp_ld 38 (.tmp 2) rfl rfl rfl k2.whole Try.underlying38 rfl (by rw [HLV.out]; exact sizeW15) ?_ | refine wp_ld 44 (.tmp 24) rfl rfl rfl hor Try.underlying44 rfl sizeOk ?_)
        refine (Hdn.out _).mono ?_
        rintro e w6 ⟨V1, q, rfl, hD, hB6⟩
        have k2 := k2.below hB6
        have b4r := b4r.below hB6
        have b8 := b8.below hB6
        have b9 := b9.below hB6
        have hown := own_bel hown hB6
        have hX := wdX_any (w' := w6) hX
        have hC6 := hC5.belowR hB6
        have HL1 := hid (len_wo hD.inn)
        have Ho1 := hid (one_wo V1)
        have HI1 := hid hD.inn
        have Hst1 := hid (Hst.out V1 q hD)
        clear hB6 hC5 hor hD Hst
        have h29 : g2 < g9 := by omega
        go_wp2_with (first | (refine wp_st 38 (.tmp 2) (.tmp 27) rfl rfl rfl (f := 0) rfl (l := V1.l) rfl k2 (by rw [HL1.out, HLV.out]; omega) (by rw [HL1.out]; exact sizeW15) Ho1.out ?_; intro x1 h2 G2; refine wp_st 33 (.tmp 9) (.tmp 28) rfl rfl rfl (f := 0) rfl (l := rvs q) rfl (b9.keep (G2.block _ b9.lt (by intro e; injection e with e; omega))) (by show 0 + 2 ≤ 2; omega) sizeRs (one_rvs _) ?_; intro x2 k9 G9; refine wp_stop ?_))
        have k9 := blk_all k9 (by show 2 ≤ 2; omega)
        have k2 := (blk_all h2 (by rw [HL1.out, HLV.out]; omega)).keep (G9.block _ h2.lt (by intro e; injection e with e; omega))
        have b4r := b4r.keep (G2.block _ b4r.lt (by intro e; injection e with e; omega))
        have b4r := b4r.keep (G9.block _ b4r.lt (by intro e; injection e with e; omega))
        have b8 := b8.keep (G2.block _ b8.lt (by intro e; injection e with e; omega))
        have b8 := b8.keep (G9.block _ b8.lt (by intro e; injection e with e; omega))
        have hown := own_keep15 hown (fun k hk hb => G2.block k hk (by have := Hrow.out k hb; intro e; injection e with e; omega))
        have hown := own_keep15 hown (fun k hk hb => G9.block k hk (by have := Hrow.out k hb; intro e; injection e with e; omega))
        have hX := wdX_any (w' := x2) hX
        have hC := (hC6.grow G2 (fun k hk => by injection hk with hk; exact .inl hk.symm)).grow G9 (fun k hk => by injection hk with hk; exact .inr (by omega))
        clear G2 G9 b9 h2 hC6 HLV HoV
        obtain ⟨qo, qn⟩ := q
        obtain ⟨rp, hrp⟩ : ∃ rp : Rp, rp = ⟨(j : Int), r.s, V1.s, qo, qn⟩ := ⟨_, rfl⟩
        have hrl : rp.l = [.int .i64 (j : Int), .int .i64 r.s, .int .i64 V1.s, .bool qo, .int .i64 qn] := by rw [hrp]; rfl
        obtain ⟨V2, hV2⟩ : ∃ V2, V2 = lastC V1 r (qo, qn) := ⟨_, rfl⟩
        have hV2s : V2 = ⟨V1.s, V1.f, V1.v, V1.u, V1.c, V1.a.set j rp⟩ := by
          rw [hV2, hrp]
          unfold lastC
          rw [Hj.out, Int.toNat_natCast]
        have h2a := Hst1.out.1
        rw [← hV2, ← HT1.out] at h2a
        have H2a := hid h2a
        have H2o : Hid ((T (l.take (i + 1))).o = (T (l.take i)).o ++ [rp]) := by
          show _ = _
          rw [HT1.out, Hst1.out.2.1, hrp, Hj.out, Hst1.out.2.2.1]
        have H2l := hid (len_wo h2a.inn)
        have H2s : Hid (V1.l.take (38 + j * 5) ++ rp.l ++ V1.l.drop (38 + j * 5 + 5) = V2.l) := by
          show _ = _
          rw [hV2s]
          exact wl_a V1 j rp HI1.out.c.len (by rw [HI1.out.a.1]; exact hj6)
        have H2r : Hid (V2.a[j]? = some rp) := by
          show _ = _
          rw [hV2s]
          exact List.getElem?_set_self (by rw [HI1.out.a.1]; exact hj6)
        have Hrp := hid (one_rp rp)
        have Hrl := hid hrl
        have r0 : x2.cell? ⟨g8, 0, none⟩ = some (.int .i64 (j : Int)) := by rw [← Hj.out]; exact b8.cellAt 0 _ Hc0.out
        have r1 := b8.cellAt 1 _ Hc1.out
        have s0 := k2.cellAt 0 _ (wol HI1.out).s
        clear hrp hV2 hV2s h2a Hst1 hrl
        refine wp_go ?_
        go_wp2_with (first | refine wp_ld 33 (.tmp 9) rfl rfl rfl k9.whole Try.underlying33 rfl sizeRs ?_ | refine wp_bld 35 [(0, .tmp 32), (1, .tmp 34), (2, .tmp 36), (3, .tmp 37)] rfl rfl [(0, .int .i64 (j : Int)), (1, .int .i64 r.s), (2, .int .i64 V1.s), (3, .agg #[.bool qo, .int .i64 qn])] rfl (bldRp15 _ _ _ _ _) ?_ | refine wp_ixp 36 (.tmp 39) (.tmp 30) rfl rfl rfl rfl Try.underlying36 hj6 sizeR15 ?_ | (refine wp_st 35 (.tmp 40) (.tmp 38) rfl rfl rfl (f := 38 + j * 5) rfl (l := rp.l) (by rw [Hrl.out]; rfl) k2 (by rw [Hrl.out, HL1.out]; show 38 + j * 5 + 5 ≤ 68; omega) (by rw [Hrl.out]; exact sizeR15) Hrp.out ?_; intro x3 h2 G3; refine wp_stop ?_))
        have k2 : Blk x3 g2 38 V2.l := by rw [← H2s.out]; rw [Hrl.out] at h2 ⊢; exact h2
        have b4r := b4r.keep (G3.block _ b4r.lt (by intro e; injection e with e; omega))
        have b8 := b8.keep (G3.block _ b8.lt (by intro e; injection e with e; omega))
        have hown := own_keep15 hown (fun k hk hb => G3.block k hk (by have := Hrow.out k hb; intro e; injection e with e; omega))
        have hX := wdX_any (w' := x3) hX
        have hC := hC.grow G3 (fun k hk => by injection hk with hk; exact .inl hk.symm)
        have r0 : x3.cell? ⟨g8, 0, none⟩ = some (.int .i64 (j : Int)) := by rw [← Hj.out]; exact b8.cellAt 0 _ Hc0.out
        have hrr := k2.range (38 + j * 5) rp.l ((wol H2a.out.inn).a j rp H2r.out)
        clear G3 h2 r1 s0 k9 HL1 Ho1
        refine wp_go ?_
        go_wp2_with (first | refine wp_ixp 36 (.tmp 44) (.tmp 43) rfl rfl rfl rfl Try.underlying36 hj6 sizeR15 ?_ | refine wp_ld 35 (.tmp 45) rfl rfl rfl hrr Try.underlying35 rfl (by rw [Hrl.out]; exact sizeR15) ?_ | (refine wp_pushW (.tmp 41) (.tmp 46) 47 slRpd15 rfl rfl rfl rfl rfl (us := rp.l) rfl (by rw [Hrl.out]; rfl) Hrp.out (by simp [Act.put]) rfl hown (by simp only [maxLen]; omega) (by omega) hC.size ?_; intro v4 w7 ho7 hG7 hd7; refine wp_stop ?_))
        have k2 := k2.keep (hG7.block _ k2.lt (by intro e; have := hown.lt _ e.symm; omega))
        have hC := hC.grow hG7 (fun k hk => .inr (hown.lt k hk).1)
        have hX : WdX w7 nob rpD (T (l.take i) ).o xs := wdX_any (w' := w7) hX
        have hX := hX.snoc (rp_mk (r := rp))
        rw [← H2o.out] at hX
        have ho7 : w7.ownsRow w2.heap.size 35 5 v4 (T (l.take (i + 1))).o.length (xs ++ rp.l) := by rw [H2o.out, List.length_append]; exact ho7
        refine wp_go ?_
        go_wp2
        go_roundw
        case rel => exact ⟨i + 1, V2, _, by omega, by go_num, k2, H2a, ho7, hX, hC⟩
        case measure => simp [intOf]; omega
    · have hi' : i = l.length := by omega
      subst hi'
      have hI : ¬ (l.length : Int) < (l.length : Int) := by omega
      rw [List.take_length] at Hbi hown hX
      go_wp2_with (first | refine wp_ld 38 (.tmp 2) rfl rfl rfl k2.whole Try.underlying38 rfl (by rw [HLV.out]; exact sizeW15) ?_ | (refine wp_st 38 (.tmp 4) (.tmp 50) rfl rfl rfl (f := 0) rfl (l := V.l) rfl b4r (by rw [HLV.out, len_zWo]; omega) (by rw [HLV.out]; exact sizeW15) HoV.out ?_; intro w6 k4 G4; refine wp_stop ?_))
      have k4 := blk_all k4 (by rw [HLV.out, len_zWo]; omega)
      have hB := hBw.grown G4 hBw.size (by intro k hk; injection hk with hk; omega)
      have hown := own_keep15 hown (fun k hk hb => G4.block k hk (by have := hown.lt k hb; intro e; injection e with e; omega))
      refine wp_go ?_
      go_wp2
      refine ret_cell1 rfl rfl rfl k4.whole Try.underlying38 rfl (by rw [HLV.out]; exact sizeW15) rfl ?_
      refine ⟨V, _, rfl, Hbi.out.inn, Hbi.out.z, (Hend.out V Hbi.out).1, (Hend.out V Hbi.out).2, ?_, hB⟩
      rw [HTe.out]
      exact wds_own hown (wdX_any (w' := w6) hX) (fun b h => h.elim) (fun b hb => by have := (hown.lt b hb).1; have := hB.size; omega)
end Go.Proofs.Ytfjgfaccfjdklaa
