/- DY: layer 10: the law DiskCopy. -/
import Derived.Test.YtjaiffefgjopmaaDJ
import Derived.Deep.RegionHeld3
namespace Go.Proofs.Ytjaiffefgjopmaa
open Go.RowKit Go.V
set_option maxRecDepth 100000 in
set_option maxHeartbeats 8000000 in
theorem diskCopy_law (l m : List Ac) (vl vm : Value) (F G : Nat → Prop) (w : World) (hl : Rd w F vl (wds acD l)) (hm : Rd w G vm (wds acD m)) (hin : ∀ a ∈ l, AcIn a) (hjn : ∀ a ∈ m, AcIn a) :
    Calls Try.prog 6 #[vl, vm] w fun e w' => e = .returned (.bool true) ∧ Below w.heap.size w w' := by
  have hl := hl.weak (F' := fun b => b < w.heap.size) (fun b hb _ => hb)
  have hm := hm.weak (F' := fun b => b < w.heap.size) (fun b hb _ => hb)
  obtain ⟨A, c, rfl, hc1, hc2⟩ := wds_shape hl
  obtain ⟨Am, cm, rfl, hd1, hd2⟩ := wds_shape hm
  go_enter Try.func6, Try.ntmps6
  go_wp2_with (fail)
  refine (wakes10_any _).mono ?_
  rintro e w1 ⟨rfl, hB1⟩
  go_wp2_with (fail)
  refine (long_any10 l _ _ _ (hl.below hB1)).mono ?_
  rintro e w2 ⟨rfl, rfl⟩
  cases hlo : longF l with
  | true =>
    go_wp2
    go_ret
    exact ⟨rfl, hB1⟩
  | false =>
  obtain ⟨hl80, hla⟩ := longF_out hlo
  clear hlo
  go_wp2_with (fail)
  refine (long_any10 m _ _ _ (hm.below hB1)).mono ?_
  rintro e w2 ⟨rfl, rfl⟩
  cases hlo : longF m with
  | true =>
    go_wp2
    go_ret
    exact ⟨rfl, hB1⟩
  | false =>
  obtain ⟨hm80, hma⟩ := longF_out hlo
  clear hlo
  go_wp2_with (fail)
  refine (new10_any 65536 _).mono ?_
  rintro e w3 ⟨v0, M0, F0, rfl, hX0, hB3, hMF⟩
  go_wp2_with (fail)
  refine (new_any10 M0 65536 _).mono ?_
  rintro e w4 ⟨rfl, hR0, hB4⟩
  have hJ0 := JH.start hB1 hB3 hX0 hMF hR0 hB4
  have hI0 := InvD.new 65536
  have Hla := hid hla
  have Hin := hid hin
  have Hma := hid hma
  have Hjn := hid hjn
  obtain ⟨D0, hD0⟩ : ∃ D : Dk, D = ⟨roomF 65536, [], [], -1, false⟩ := ⟨_, rfl⟩
  rw [← hD0] at hJ0 hI0
  obtain ⟨p, hp⟩ : ∃ p, p = w3.heap.size := ⟨_, rfl⟩
  rw [← hp] at hJ0 ⊢
  clear hD0 hMF hB3 hla hin hma hjn hp hX0 hR0 hB4 hB1
  go_wp2
  go_loopw [5, 24] (fun dv iv wr => ∃ (i : Nat) (r : Option Nat) (M F' : Nat → Prop) (D : Dk), i ≤ l.length ∧ iv = .int .i64 i ∧ JH w wr dv p r M F' D D ∧ InvD 65536 i D) (fun _ i _ => l.length - (intOf i).toNat)
  case atStart => exact ⟨0, none, M0, F0, D0, Nat.zero_le _, rfl, hJ0, hI0⟩
  case round =>
    obtain ⟨i, r, M, F', D, hi, rfl, hJ, hI⟩ := hrel
    by_cases hlt : i < l.length
    · obtain ⟨a, ha⟩ : ∃ a, l[i]? = some a := ⟨_, List.getElem?_eq_getElem hlt⟩
      have hIlt : (i : Int) < (l.length : Int) := by omega
      have hin1 : IntKind.i64.wrap ((i : Int) + 1) = (i : Int) + 1 := IntWalk.i64_in _ (by omega)
      have hlr := hl.below hJ.bel
      obtain ⟨g, off, cs, rfl, hg, hr, he⟩ := wd_el hlr ha
      obtain ⟨u, rfl, hu⟩ := ac_open he
      obtain ⟨Au, cu, rfl⟩ := hu.shape
      have hAi := Hin.out a (List.mem_of_getElem? ha)
      have hAl := (Hla.out a (List.mem_of_getElem? ha)).1
      have hAs := hAi.sm hAl
      have hAm := hAi.m
      clear ha he hAi
      go_wp2_with (first | refine wp_ixa 22 (.tmp 22) (.tmp 24) rfl rfl rfl rfl Try.underlying22 hlt sizeAc ?_ | refine wp_ld 34 (.tmp 26) rfl rfl rfl hr Try.underlying34 rfl sizeAc ?_ | refine wp_newst 34 8 (.tmp 27) rfl rfl rfl rfl rfl rfl zeroAc (l := a.l (.slice Au a.b.length cu)) rfl rfl sizeAc (one_ac a _ _ _) (by simp [Act.put]) ?_; intro w4 hx4 hB4 hs4; refine wp_stop ?_)
      have hJ4 := hJ.below hB4
      have hu4 := hu.below hB4
      obtain ⟨gx, hgx⟩ : ∃ g, g = wr.heap.size := ⟨_, rfl⟩
      have HGX : ¬ M gx := fun h => by have := hJ.ix.bd gx (.inl h); omega
      rw [← hgx] at hx4 ⊢
      clear hgx hJ hu hr hlr hB4 hs4
      refine wp_go ?_
      go_wp2_with (refine wp_ld 34 (.tmp 8) rfl rfl rfl hx4.whole Try.underlying34 rfl sizeAc ?_)
      refine (right_any10 a _ _).mono ?_
      rintro e w5 ⟨rfl, hB5⟩
      have hJ5 := hJ4.below hB5
      have hu5 := hu4.below hB5
      have hx5 := hx4.below hB5
      clear hJ4 hu4 hx4 hB5
      by_cases hk : 0 ≤ a.k ∧ a.k ≤ 7
      · rw [decide_eq_true hk]
        have hI' := hI.step hAl hAm
        have hsm := hI.sm (by omega)
        have hDo := dol_any _ M F' _ D a _ w5 hJ5.ix hsm hAs hu5 (fun b hb => ⟨by have h' : b < w.heap.size := hb; have := hJ5.bel.size; omega, fun hm => by have h' : b < w.heap.size := hb; have := hJ5.mB b hm; omega⟩) hk
        have hDd := fun (M : Nat → Prop) W h1 h2 h3 => do_any p r M D a (.slice Au a.b.length cu) W h1 hsm h2 h3 hAs
        unfold DoL at hDo
        unfold DoP at hDd
        obtain ⟨R, hR⟩ : ∃ R, R = doF D a := ⟨_, rfl⟩
        rw [← hR] at hI' hDo hDd
        have Hk := hid hk
        have HDd := hid hDd
        clear hR hk hDd
        go_wp2_with (refine wp_ld 34 (.tmp 8) rfl rfl rfl hx5.whole Try.underlying34 rfl sizeAc ?_)
        refine hDo.mono ?_
        rintro e w6 ⟨v6, rfl, hp6, -⟩
        have hsz5 := hJ5.bel.size
        have hx6g := hx5.lt
        obtain ⟨M6, F6, hX6, hC6, hM6, hF6⟩ := hp6
        have hJ6 := hJ5.did1 hX6 hC6 hM6 hF6
        have hx6 := hx5.keep (hC6.block _ hx5.lt HGX)
        have hu6 := hu5.keep (F' := fun b => b < w.heap.size) (fun b hb hF => ⟨hF, hC6.block b hb (fun hm => by have h' : b < w.heap.size := hF; have := hJ5.mB b hm; omega)⟩)
        clear hJ5 hu5 hx5 hDo hX6 hC6 hM6 hF6
        go_wp2_with (refine wp_ld 34 (.tmp 8) rfl rfl rfl hx6.whole Try.underlying34 rfl sizeAc ?_)
        refine (HDd.out M6 _ hJ6.rx (fun b hb => hJ6.ix.bd b (.inl hb)) (hJ6.readable hu6)).mono ?_
        rintro e w7 ⟨r7, rfl, hX7, hC7, hr7⟩
        have hJ7 := hJ6.doc hX7 hC7 hr7
        clear hJ6 hX7 hC7 hr7 hu6 hx6 HDd
        go_wp2
        go_roundw
        case rel => exact ⟨i + 1, r7, M6, F6, R.1, by omega, by go_num, hJ7, hI'⟩
        case measure => simp [intOf]; omega
      · rw [decide_eq_false hk]
        go_wp2
        go_roundw
        case rel => exact ⟨i + 1, r, M, F', D, by omega, by go_num, hJ5, hI.mono (by omega)⟩
        case measure => simp [intOf]; omega
    · have hi' : i = l.length := by omega
      subst hi'
      have hI0 : ¬ (l.length : Int) < (l.length : Int) := by omega
      have hsm := hI.sm (by omega)
      have huq := hI.uq
      obtain ⟨xv, rfl⟩ := hJ.ix.ptr
      go_wp2_with (fail)
      refine (copy10_any _ M F' D _ hJ.ix hsm).mono ?_
      rintro e w8 ⟨v2, M1, F1, M2, F2, rfl, hX1, hX2, hC8, hM1, hF1, hM2, hF2, hd12, hd21⟩
      obtain ⟨x2, rfl⟩ := hX2.ptr
      have hJ8 := hJ.did1 hX1 hC8 hM1 hF1
      have hpl := hJ.rx.lt
      have hrl := hJ.rx.row
      have hsb := hJ.bel.size
      have hR8 : RX w8 p r (fun b => M1 b ∨ M2 b) D := hJ.rx.move hC8 hJ.pN.1 (fun b e => (hJ.rN b e).1) (fun b hb => hb.elim (hM1 b) (hM2 b))
      have hp2 : ¬ M2 p := fun h => (hM2 p h).elim hJ.pN.1 (fun h => by omega)
      have hr2 : ∀ b, r = some b → ¬ M2 b := fun b e h => (hM2 b h).elim (hJ.rN b e).1 (fun h => by have := hrl b e; omega)
      have hM2b : ∀ b, M2 b → w.heap.size ≤ b ∧ ¬ M1 b ∧ ¬ F1 b := fun b hb => ⟨(hM2 b hb).elim (hJ.mB b) (fun h => by omega), fun h => (hd12 b h).1 hb, hd21 b hb⟩
      have hp1 := hJ8.pN
      have hr1 := hJ8.rN
      have hm1 := hJ8.mB
      have hb8 := hJ8.bel
      clear hJ hJ8 hC8 hM1 hF1 hM2 hF2 hd12 hd21 hpl hrl
      go_wp2
      go_loopw [44] (fun jv wr => ∃ (j : Nat) (M2 F2 : Nat → Prop) (E : Dk), j ≤ m.length ∧ jv = .int .i64 j ∧ IX wr (.pointer (some ⟨xv, 0, none⟩)) M1 F1 D ∧ IX wr (.pointer (some ⟨x2, 0, none⟩)) M2 F2 E ∧ RX wr p r (fun b => M1 b ∨ M2 b) D ∧ InvD 65536 (l.length + j) E ∧ ¬ M2 p ∧ (∀ b, r = some b → ¬ M2 b) ∧ (∀ b, M2 b → w.heap.size ≤ b ∧ ¬ M1 b ∧ ¬ F1 b) ∧ Below w.heap.size w wr) (fun j _ => m.length - (intOf j).toNat)
      case atStart => exact ⟨0, M2, F2, D, Nat.zero_le _, rfl, hX1, hX2, hR8, hI, hp2, hr2, hM2b, hb8⟩
      case round =>
        obtain ⟨j, M2, F2, E, hj, rfl, hX1, hX2, hR, hIE, hp2, hr2, hM2, hB⟩ := hrel
        by_cases hlt : j < m.length
        · obtain ⟨a, ha⟩ : ∃ a, m[j]? = some a := ⟨_, List.getElem?_eq_getElem hlt⟩
          have hIlt : (j : Int) < (m.length : Int) := by omega
          have hin1 : IntKind.i64.wrap ((j : Int) + 1) = (j : Int) + 1 := IntWalk.i64_in _ (by omega)
          have hlr := hm.below hB
          obtain ⟨g, off, cs, rfl, hg, hr, he⟩ := wd_el hlr ha
          obtain ⟨u, rfl, hu⟩ := ac_open he
          obtain ⟨Au, cu, rfl⟩ := hu.shape
          have hAi := Hjn.out a (List.mem_of_getElem? ha)
          have hAl := (Hma.out a (List.mem_of_getElem? ha)).1
          have hAs := hAi.sm hAl
          have hAm := hAi.m
          clear ha he hAi
          go_wp2_with (first | refine wp_ixa 22 (.tmp 42) (.tmp 44) rfl rfl rfl rfl Try.underlying22 hlt sizeAc ?_ | refine wp_ld 34 (.tmp 46) rfl rfl rfl hr Try.underlying34 rfl sizeAc ?_ | refine wp_newst 34 11 (.tmp 47) rfl rfl rfl rfl rfl rfl zeroAc (l := a.l (.slice Au a.b.length cu)) rfl rfl sizeAc (one_ac a _ _ _) (by simp [Act.put]) ?_; intro w4 hx4 hB4 hs4; refine wp_stop ?_)
          have hX14 := hX1.keep (fun b hb _ => hB4.block b hb) hB4.size
          have hX24 := hX2.keep (fun b hb _ => hB4.block b hb) hB4.size
          have hR4 := hR.below hB4
          have hu4 := hu.below hB4
          have hBx := hB.trans (hB4.mono hB.size)
          obtain ⟨gx, hgx⟩ : ∃ g, g = wr.heap.size := ⟨_, rfl⟩
          rw [← hgx] at hx4 ⊢
          clear hgx hX1 hX2 hR hu hr hlr hB4 hs4 hB
          refine wp_go ?_
          go_wp2_with (refine wp_ld 34 (.tmp 11) rfl rfl rfl hx4.whole Try.underlying34 rfl sizeAc ?_)
          refine (right_any10 a _ _).mono ?_
          rintro e w5 ⟨rfl, hB5⟩
          have hX15 := hX14.keep (fun b hb _ => hB5.block b hb) hB5.size
          have hX25 := hX24.keep (fun b hb _ => hB5.block b hb) hB5.size
          have hR5 := hR4.below hB5
          have hu5 := hu4.below hB5
          have hx5 := hx4.below hB5
          have hBy := hBx.trans (hB5.mono hBx.size)
          have ck := hx5.cellAt 0 _ rfl
          clear hX14 hX24 hR4 hu4 hx4 hB5 hBx
          by_cases hk : 0 ≤ a.k ∧ a.k ≤ 7
          · rw [decide_eq_true hk]
            by_cases h6 : a.k = 6
            · have hb6 : (a.k != 6) = false := by rw [h6]; rfl
              clear hk h6
              go_wp2
              go_roundw
              case rel => exact ⟨j + 1, M2, F2, E, by omega, by go_num, hX15, hX25, hR5, hIE.mono (by omega), hp2, hr2, hM2, hBy⟩
              case measure => simp [intOf]; omega
            · have hb6 : (a.k != 6) = true := by rw [bne_iff_ne]; exact h6
              have hI' := hIE.step hAl hAm
              have hsE := hIE.sm (by omega)
              have hDo := dol_any _ M2 F2 _ E a _ w5 hX25 hsE hAs hu5 (fun b hb => ⟨by have h' : b < w.heap.size := hb; have := hBy.size; omega, fun hm => by have h' : b < w.heap.size := hb; have := (hM2 b hm).1; omega⟩) hk
              unfold DoL at hDo
              obtain ⟨R, hRR⟩ : ∃ R, R = doF E a := ⟨_, rfl⟩
              rw [← hRR] at hI' hDo
              have Hk := hid hk
              have H6 := hid h6
              clear hRR hk h6
              go_wp2_with (refine wp_ld 34 (.tmp 11) rfl rfl rfl hx5.whole Try.underlying34 rfl sizeAc ?_)
              refine hDo.mono ?_
              rintro e w6 ⟨v6, rfl, ⟨M6, F6, hX6, hC6, hM6, hF6⟩, hv6⟩
              obtain rfl := hv6 H6.out
              have hX16 := hX15.keep (fun b hb hMF => hC6.block b hb (fun hm => hMF.elim (hM2 b hm).2.1 (hM2 b hm).2.2)) hC6.size
              have hbd1 := hX15.bd
              have hsz := hBy.size
              have hpl := hR5.lt
              have hrl := hR5.row
              have hR6 : RX w6 p r (fun b => M1 b ∨ M6 b) D := hR5.move (hC6.weaken (fun b _ h => .inr h)) (fun h => h.elim hp1.1 hp2) (fun b e h => h.elim (hr1 b e).1 (hr2 b e)) (fun b hb => hb.elim (fun h => .inl (.inl h)) (fun h => (hM6 b h).elim (fun h => .inl (.inr h)) .inr))
              have hBz := below_chM hBy hC6 (fun b hb => (hM2 b hb).1) (Nat.le_refl _)
              have hp6 : ¬ M6 p := fun h => (hM6 p h).elim hp2 (fun h => by omega)
              have hr6 : ∀ b, r = some b → ¬ M6 b := fun b e h => (hM6 b h).elim (hr2 b e) (fun h => by have := hrl b e; omega)
              have hM6' : ∀ b, M6 b → w.heap.size ≤ b ∧ ¬ M1 b ∧ ¬ F1 b := fun b hb => (hM6 b hb).elim (hM2 b) (fun h => ⟨by omega, fun h1 => by have := hbd1 b (.inl h1); omega, fun h1 => by have := hbd1 b (.inr h1); omega⟩)
              clear hX15 hX25 hR5 hu5 hx5 hDo hC6 hM6 hF6 hBy hbd1 hpl hrl ck hp2 hr2 hM2
              go_wp2
              go_roundw
              case rel => exact ⟨j + 1, M6, F6, R.1, by omega, by go_num, hX16, hX6, hR6, hI', hp6, hr6, hM6', hBz⟩
              case measure => simp [intOf]; omega
          · rw [decide_eq_false hk]
            go_wp2
            go_roundw
            case rel => exact ⟨j + 1, M2, F2, E, by omega, by go_num, hX15, hX25, hR5, hIE.mono (by omega), hp2, hr2, hM2, hBy⟩
            case measure => simp [intOf]; omega
        · have hj' : j = m.length := by omega
          subst hj'
          have hJ0 : ¬ (m.length : Int) < (m.length : Int) := by omega
          obtain ⟨N, hN⟩ : ∃ N : Nat → Prop, N = fun b => M1 b ∨ M2 b := ⟨_, rfl⟩
          have hNb : ∀ b, N b → b < wr.heap.size := fun b hb => by rw [hN] at hb; exact hb.elim (fun h => hX1.bd b (.inl h)) (fun h => hX2.bd b (.inl h))
          rw [← hN] at hR
          obtain ⟨vs, vp, xs, hb, hvs, ho, hxx, hrr, hrp⟩ := hR
          obtain ⟨Ap, cp, rfl⟩ := own_shape8 ho
          have hR : RX wr p r N D := ⟨vs, _, xs, hb, hvs, ho, hxx, hrr, hrp⟩
          have HRX : Hid (∀ W, Ch nob wr W → RX W p r N D) := fun W h => hR.below h.below
          have HIX : Hid (∀ W, Ch nob wr W → IX W (.pointer (some ⟨xv, 0, none⟩)) M1 F1 D) := fun W h => hX1.keep (fun b hb _ => h.block b hb (fun h => h)) h.size
          have HP : Hid (∀ W, Ch nob wr W → W.cell? ⟨p, 2, none⟩ = some (.slice Ap D.pend.length cp)) := fun W h => (hb.ch h (fun h => h)).cellAt 2 _ rfl
          clear hN hb hvs ho hxx hrr hrp hR hX1 hX2 hp2 hr2 hM2
          go_wp2
          clear hIE hI hm hl
          refine wp_region_noPanic ?_
          refine wp_region_held_drew (S := Ch nob wr) (by kernel_rfl) ((Ch.refl _ _).drew) (fun hHeld => ?_)
          refine wpAnyH_take (i := 0) (oi := ⟨some 59, _, _, _, _, none⟩) (v := ?_) rfl (by kernel_rfl) (by kernel_rfl) (by kernel_rfl) (fun _ _ _ h => h) (Or.inl ⟨by rfl, ?_⟩) (by assumption) ?_
          rotate_left
          · intro w hSw; go_simp; try with_reducible rfl
          try simp only [Act.put, List.setIfInBounds_toArray, List.set_cons_zero, List.set_cons_succ]
          refine wpAnyH_take (i := 1) (oi := ⟨some 60, _, _, _, _, none⟩) (v := ?_) rfl (by kernel_rfl) (by kernel_rfl) (by kernel_rfl) (fun _ _ _ h => h) (Or.inl ⟨by rfl, ?_⟩) (by assumption) ?_
          rotate_left
          · intro w hSw; go_simp; try with_reducible rfl
          try simp only [Act.put, List.setIfInBounds_toArray, List.set_cons_zero, List.set_cons_succ]
          refine wpAnyH_ready (rs := [2]) (by kernel_rfl) (by simp) ?_
          refine AllReadyH.cons (o := ⟨some 61, _, _, _, _, none⟩) rfl (fun K hK => ?_) AllReadyH.nil
          go_simp
          refine (now_any p r N D _ (HRX.out _ hHeld) hsm (fun b hb => by have := hNb b hb; have := hHeld.size; omega)).mono ?_
          rintro e' w11 ⟨v11, rfl, hl11, hB11⟩
          have hC11 := hHeld.belowG hB11
          refine hK.out _ _ (hC11) (fun hHeld => ?_)
          clear hK K
          try simp only [Act.put, List.setIfInBounds_toArray, List.set_cons_zero, List.set_cons_succ]
          refine wpAnyH_ready (rs := [3]) (by kernel_rfl) (by simp) ?_
          refine AllReadyH.cons (o := ⟨some 62, _, _, _, _, none⟩) rfl (fun K hK => ?_) AllReadyH.nil
          go_simp
          refine (same10_any _ v11 M1 F1 _ D _ (HIX.out _ hHeld) hsm huq hl11).mono ?_
          rintro e' w12 ⟨rfl, hB12⟩
          have hC12 := hC11.belowG hB12
          refine hK.out _ _ (hC12) (fun hHeld => ?_)
          clear hK K
          try simp only [Act.put, List.setIfInBounds_toArray, List.set_cons_zero, List.set_cons_succ]
          refine wpAnyH_take (i := 4) (oi := ⟨some 63, _, _, _, _, none⟩) (v := ?_) rfl (by kernel_rfl) (by kernel_rfl) (by kernel_rfl) (fun _ _ _ h => h) (Or.inl ⟨by rfl, ?_⟩) (by assumption) ?_
          rotate_left
          · intro w hSw; go_simp; try with_reducible rfl
          try simp only [Act.put, List.setIfInBounds_toArray, List.set_cons_zero, List.set_cons_succ]
          refine wpAnyH_take (i := 5) (oi := ⟨some 64, _, _, _, _, some (4, true)⟩) (v := ?_) rfl (by kernel_rfl) (by kernel_rfl) (by kernel_rfl) (fun _ _ _ h => h) (Or.inl ⟨by rfl, ?_⟩) (by assumption) ?_
          rotate_left
          · intro w hSw; go_simp; try with_reducible rfl
          try simp only [Act.put, List.setIfInBounds_toArray, List.set_cons_zero, List.set_cons_succ]
          refine wpAnyH_take (i := 7) (oi := ⟨some 66, _, _, _, _, some (4, true)⟩) (v := ?_) rfl (by kernel_rfl) (by kernel_rfl) (by kernel_rfl) (fun _ _ _ h => h) (Or.inl ⟨by rfl, ?_⟩) (by assumption) ?_
          rotate_left
          · intro w hSw; go_simp; try with_reducible rfl
          try simp only [Act.put, List.setIfInBounds_toArray, List.set_cons_zero, List.set_cons_succ]
          refine wpAnyH_take (i := 8) (oi := ⟨some 67, _, _, _, _, some (4, true)⟩) (v := ?_) rfl (by kernel_rfl) (by kernel_rfl) (by kernel_rfl) (fun _ _ _ h => h) (Or.inl ⟨by rfl, ?_⟩) (by assumption) ?_
          rotate_left
          · intro w hSw; go_simp; try with_reducible rfl
          try simp only [Act.put, List.setIfInBounds_toArray, List.set_cons_zero, List.set_cons_succ]
          refine wpAnyH_take (i := 9) (oi := ⟨some 68, _, _, _, _, some (4, true)⟩) (v := ?_) rfl (by kernel_rfl) (by kernel_rfl) (by kernel_rfl) (fun _ _ _ h => h) (Or.inl ⟨by rfl, ?_⟩) (by assumption) ?_
          rotate_left
          · intro w hSw; go_simp; try with_reducible rfl
          try simp only [Act.put, List.setIfInBounds_toArray, List.set_cons_zero, List.set_cons_succ]
          refine wpAnyH_take (i := 10) (oi := ⟨some 69, _, _, _, _, some (4, true)⟩) (v := ?_) rfl (by kernel_rfl) (by kernel_rfl) (by kernel_rfl) (fun _ _ _ h => h) (Or.inl ⟨by rfl, ?_⟩) (by assumption) ?_
          rotate_left
          · intro w hSw; have hcw := HP.out w hSw; go_simp; try with_reducible rfl
          try simp only [Act.put, List.setIfInBounds_toArray, List.set_cons_zero, List.set_cons_succ]
          refine wpAnyH_take (i := 11) (oi := ⟨some 70, _, _, _, _, some (4, true)⟩) (v := ?_) rfl (by kernel_rfl) (by kernel_rfl) (by kernel_rfl) (fun _ _ _ h => h) (Or.inl ⟨by rfl, ?_⟩) (by assumption) ?_
          rotate_left
          · intro w hSw; go_simp; try with_reducible rfl
          try simp only [Act.put, List.setIfInBounds_toArray, List.set_cons_zero, List.set_cons_succ]
          refine wpAnyH_ready (rs := [6]) (by kernel_rfl) (by simp) ?_
          refine AllReadyH.cons (o := ⟨some 65, _, _, _, _, some (4, true)⟩) rfl (fun K hK => ?_) AllReadyH.nil
          go_simp
          refine (pending10_any _ M1 F1 D _ (HIX.out _ hHeld) hsm).mono ?_
          rintro e' w13 ⟨rfl, hB13⟩
          have hC13 := hC12.belowG hB13
          refine hK.out _ _ (hC13) (fun hHeld => ?_)
          clear hK K
          try simp only [Act.put, List.setIfInBounds_toArray, List.set_cons_zero, List.set_cons_succ]
          refine wpAnyH_take (i := 12) (oi := ⟨some 71, _, _, _, _, some (4, true)⟩) (v := ?_) rfl (by kernel_rfl) (by kernel_rfl) (by kernel_rfl) (fun _ _ _ h => h) (Or.inl ⟨by rfl, ?_⟩) (by assumption) ?_
          rotate_left
          · intro w hSw; go_simp; try with_reducible rfl
          try simp only [Act.put, List.setIfInBounds_toArray, List.set_cons_zero, List.set_cons_succ]
          refine wpAnyH_take (i := 13) (oi := ⟨some 72, _, _, _, _, none⟩) (v := ?_) rfl (by kernel_rfl) (by kernel_rfl) (by kernel_rfl) (fun _ _ _ h => h) (Or.inl ⟨by rfl, ?_⟩) (by assumption) ?_
          rotate_left
          · intro w hSw; go_simp; try with_reducible rfl
          try simp only [Act.put, List.setIfInBounds_toArray, List.set_cons_zero, List.set_cons_succ]
          refine wpAnyH_take (i := 14) (oi := ⟨some 4, _, _, _, _, none⟩) (v := ?_) rfl (by kernel_rfl) (by kernel_rfl) (by kernel_rfl) (fun _ _ _ h => h) (Or.inl ⟨by rfl, ?_⟩) (by assumption) ?_
          rotate_left
          · intro w hSw; go_simp; try with_reducible rfl
          try simp only [Act.put, List.setIfInBounds_toArray, List.set_cons_zero, List.set_cons_succ]
          refine wpAnyH_done (by kernel_rfl) ?_ _
          refine NoPanic.normal ?_
          go_wp2
          go_ret
          exact ⟨by simp, hB.trans (hC13.below.mono hB.size)⟩
end Go.Proofs.Ytjaiffefgjopmaa
