/- E8: layer 10: Crash of the landed disk. -/
import Derived.Test.YtjaiffefgjopmaaE7
namespace Go.V
open Go.RowKit
theorem cr_n24 (keep : Nat) (torn cut : Int) : ∀ (p : List Ac) (i : Nat) {l : List Fl}, (∀ f ∈ l, f.n.size ≤ 24) → (∀ a ∈ p, PdOk a) → ∀ f ∈ crF keep torn cut i l p, f.n.size ≤ 24
  | [], _, _, h, _ => h
  | a :: p, i, l, h, hp => by
    rw [crF]
    refine cr_n24 keep torn cut p (i + 1) ?_ (fun b hb => hp b (by simp [hb]))
    have ha := hp a (by simp)
    unfold crS
    split
    · refine done_n24 h ⟨ha.k, ⟨by have := ha.sm.b; unfold tornF; simp; omega, ha.sm.keep, ha.sm.cut, ha.sm.m, ha.sm.nn, ha.sm.tt⟩, ha.n, ?_⟩
      have := ha.t
      unfold nrmA tornF at *
      dsimp only at *
      split <;> (try split) <;> simp_all
    · split
      · exact done_n24 h ha
      · exact h
def cX (c : Nat → Nat) (a b f : Nat) (y : Nat) : Nat := if y < a then c y else if y < b then 3 else if y = f then 2 else 4
end Go.V
namespace Go.Proofs.Ytjaiffefgjopmaa
open Go.RowKit Go.V Go.Maps
theorem cut_p (a p : Ac) (F : Nat → Prop) (va : Value) (cut : Int) (m : Nat) (w : World) (hp : p = { a with b := a.b.take m }) (hva : Rd w F va (bys a.b)) (hm : min (max cut 0) (a.b.length : Int) = (m : Int)) (hml : m ≤ a.b.length) :
    Calls Try.prog 42 #[thV a va, .int .i64 cut] w fun e w' => ∃ v', e = .returned (thV p v') ∧ Rd w' F v' (bys p.b) ∧ Below w.heap.size w w' := by
  rw [hp]
  exact cut_e a F va cut m w hva hm hml
set_option maxRecDepth 100000 in
set_option maxHeartbeats 8000000 in
theorem crash_e (x s f : Nat) (Ms Mf F : Nat → Prop) (c : Nat → Nat) (d : Dk) (vp : Value) (xs : List Value) (keep : Nat) (torn cut : Int) (w : World) (h : IE w x s f Ms Mf F c d vp xs) (hs : DkSm d) (hkp : keep < 18446744073709551616) :
    Calls Try.prog 24 #[.pointer (some ⟨x, 0, none⟩), .agg #[.int .u64 (keep : Int), .int .i64 torn, .int .i64 cut]] w fun e w' => e = .returned (.tuple #[]) ∧ LfE w x s f Ms Mf F vp (crashF d keep torn cut) w' := by
  obtain ⟨Ap, cp, hvp⟩ := own_shape8 h.ho
  rw [hvp] at h ⊢
  clear hvp
  have Hh := hid h
  have hsn := hs.n
  have hst := hs.t
  have hpb := Blk.new' w 32 [.int .u64 (keep : Int), .int .i64 torn, .int .i64 cut]
  have hal : Below w.heap.size w (w.alloc (.cells [.int .u64 (keep : Int), .int .i64 torn, .int .i64 cut].toArray 32)) := (Below.refl _ _).alloc (Nat.le_refl _) _
  have hws : (w.alloc (.cells [.int .u64 (keep : Int), .int .i64 torn, .int .i64 cut].toArray 32)).heap.size = w.heap.size + 1 := by simp
  have h0 := h.below hal
  have c3 := h0.hb.cellAt 3 _ rfl
  have hxw : x < w.heap.size := h.hb.lt
  have hsw : s < w.heap.size := h.ms.lt
  have hMsw : ∀ y, Ms y → y < w.heap.size := fun y e => (h.cm y e).2
  have hFw : ∀ y, F y → y < w.heap.size := fun y e => (h.cF y e).2
  have hsx : s ≠ x := fun e => by have := h.cx; have := h.cs; rw [e] at this; omega
  have hX0 : FX (w.alloc (.cells [.int .u64 (keep : Int), .int .i64 torn, .int .i64 cut].toArray 32)) Ms s (crF keep torn cut 0 d.syn (d.pend.take 0)) := h0.fxs
  have H0 := hid h0
  clear h h0
  go_enter Try.func24, Try.ntmps24
  go_wp2
  clear c3
  obtain ⟨w0, hw0⟩ : ∃ u, u = w.alloc (.cells [.int .u64 (keep : Int), .int .i64 torn, .int .i64 cut].toArray 32) := ⟨_, rfl⟩
  rw [← hw0] at hpb hal H0 hws hX0 ⊢
  clear hw0
  obtain ⟨gp, hgp⟩ : ∃ g, g = w.heap.size := ⟨_, rfl⟩
  rw [← hgp] at hpb ⊢
  have hgpw : w.heap.size ≤ gp ∧ gp < w0.heap.size := by omega
  clear hgp
  go_loopw [13] (fun iv wr => ∃ (i : Nat) (M' : Nat → Prop), i ≤ d.pend.length ∧ iv = .int .i64 i ∧ FX wr M' s (crF keep torn cut 0 d.syn (d.pend.take i)) ∧ (∀ y, M' y → Ms y ∨ w0.heap.size ≤ y) ∧ Ch (gX s Ms) w0 wr) (fun i _ => d.pend.length - (intOf i).toNat)
  case atStart => exact ⟨0, Ms, Nat.zero_le _, rfl, hX0, fun _ e => .inl e, Ch.refl _ _⟩
  case round =>
    obtain ⟨i, M', hi, rfl, hX, hM', hC⟩ := hrel
    have hzr := hC.size
    have hck : ∀ y, y < w.heap.size → c y ≠ 1 → c y ≠ 3 → wr.heap[y]? = w0.heap[y]? := fun y hy h1 h3 => hC.block y (by omega) (by rintro (e | e); (have := Hh.out.cs; rw [e] at h1; omega); (have := (Hh.out.cm y e).1; omega))
    by_cases hlt : i < d.pend.length
    · obtain ⟨a0, ha⟩ : ∃ a0, d.pend[i]? = some a0 := ⟨_, List.getElem?_eq_getElem hlt⟩
      have hI : (i : Int) < (d.pend.length : Int) := by omega
      have han : (d.pend.map nrmA)[i]? = some (nrmA a0) := by rw [List.getElem?_map, ha]; rfl
      obtain ⟨b, hbb⟩ : ∃ b, b = nrmA a0 := ⟨_, rfl⟩
      rw [← hbb] at han
      have Hb := hid hbb
      have hok := Hh.out.pd a0 (List.mem_of_getElem? ha)
      have hbs : AcSm b := by rw [hbb]; exact nrm_sm hok.sm
      have hk0 : 0 ≤ a0.k := hok.k.1
      have hbk : b.k = a0.k := by rw [hbb]; exact nrm_k a0
      clear hbb
      have hor := own_keep10 H0.out.ho (fun k _ he => hck k (Hh.out.ho.lt k he).2 (by have := Hh.out.cv k he; omega) (by have := Hh.out.cv k he; omega))
      have hxr : WdX wr F apD (d.pend.map nrmA) xs := H0.out.hx.keep (fun y _ e => ⟨e, hck y (hFw y e) (by have := (Hh.out.cF y e).1; omega) (by have := (Hh.out.cF y e).1; omega)⟩)
      obtain ⟨gr, cr, cs, hve, hrg, he⟩ := own_el hor hxr han
      injection hve with hve hve2 hve3
      subst hve hve3
      obtain ⟨u, rfl, hu⟩ := ap_open he
      obtain ⟨Au, cu, rfl⟩ := hu.shape
      have hbd := cr_bd keep torn cut (d.pend.take i) 0 d.syn
      have htt := totA_take d.pend i
      rw [List.length_take] at hbd
      have hsn2 := cr_snoc keep torn cut (d.pend.take i) 0 d.syn a0
      rw [← take_snocF ha, Nat.zero_add, List.length_take, Nat.min_eq_left (by omega)] at hsn2
      obtain ⟨L, hL⟩ : ∃ L, L = crF keep torn cut 0 d.syn (d.pend.take i) := ⟨_, rfl⟩
      rw [← hL] at hX hbd hsn2
      have hLn : L.length < maxLen := by simp only [maxLen]; omega
      have hft := find_tot L b.n
      have hfl : ((findF L b.n).getD []).length ≤ 1000000000 := by omega
      have hin : IntKind.i64.wrap ((i : Int) + 1) = (i : Int) + 1 := IntWalk.i64_in _ (by omega)
      have HS2 := hid hsn2
      have Hbk := hid hbk
      clear he hor hxr han ha hL hft htt hbd hsn2 hok
      have hb6 := Blk.new' wr 76 zPe
      have hB6 : Below wr.heap.size wr (wr.alloc (.cells zPe.toArray 76)) := (Below.refl _ _).alloc (Nat.le_refl _) _
      clear hbk
      go_wp2_with (first | refine wp_ixa 62 (.tmp 11) (.tmp 13) rfl rfl rfl rfl Try.underlying62 hlt sizeTh ?_ | refine wp_ld 76 (.tmp 16) rfl rfl rfl hrg Try.underlying76 rfl sizeTh ?_ | (refine wp_new 76 rfl rfl zeroTh ?_; refine wp_stop ?_))
      refine wp_go ?_
      go_wp2_with (refine wp_st 76 (.tmp 5) (.tmp 17) rfl rfl rfl (b := wr.heap.size) (f := 0) rfl (l := apL b (.slice Au b.b.length cu)) rfl hb6 (by simp [zPe, apL]) sizeTh (one_ap _ _ _ _) ?_; intro w3 hb3 hG3; refine wp_stop ?_)
      have hb3 : Blk w3 wr.heap.size 76 (apL b (.slice Au b.b.length cu)) := hb3
      have hB3 : Below wr.heap.size wr w3 := hB6.grown hG3 hB6.size (fun k hk => by injection hk with hk; omega)
      obtain ⟨ga, hga⟩ : ∃ u, u = wr.heap.size := ⟨_, rfl⟩
      rw [← hga] at hb3 ⊢
      have hgar : wr.heap.size ≤ ga ∧ ga < w3.heap.size := ⟨by omega, hb3.lt⟩
      have hz3' := hB3.size
      have hMr : ∀ y, M' y → y < wr.heap.size := hX.2.2
      have hu3 := hu.below hB3
      have hX3 : FX w3 M' s L := ⟨hX.1.below hB3, hX.2.1, fun y e => by have := hMr y e; omega⟩
      have hgM : ¬ gX s M' ga := by
        rintro (e | e)
        · omega
        · have := hMr ga e; omega
      have hxM : ¬ gX s M' x := by
        rintro (e | e)
        · exact hsx e.symm
        · rcases hM' x e with e2 | e2
          · have := (Hh.out.cm x e2).1; have := Hh.out.cx; omega
          · omega
      have hpM : ¬ gX s M' gp := by
        rintro (e | e)
        · omega
        · rcases hM' gp e with e2 | e2
          · have := hMsw gp e2; omega
          · omega
      have hbx : Blk w3 x 64 (dcZ d s f (.slice (some ⟨gr, 0, none⟩) d.pend.length cp)) := (H0.out.hb.keep (hck x hxw (by have := Hh.out.cx; omega) (by have := Hh.out.cx; omega))).below hB3
      have hpb3 : Blk w3 gp 32 [.int .u64 (keep : Int), .int .i64 torn, .int .i64 cut] := (hpb.keep (hC.block gp hgpw.2 (by rintro (e | e); omega; (have := hMsw gp e; omega)))).below hB3
      have hC3 : Ch (gX s Ms) w0 w3 := hC.belowR hB3
      have HM' := hid hM'
      clear hX hu hrg hB3 hC hck hM' hga hG3 hb6 hB6
      refine wp_go ?_
      by_cases ht : (i : Int) = torn
      · have e0 : ((i : Int) == torn) = true := beq_iff_eq.2 ht
        have Ht := hid ht
        have z0 := hb3.cellAt 0 _ rfl
        have z1 := hb3.cellAt 1 _ rfl
        have z2 := hb3.cellAt 2 _ rfl
        have z3 := hb3.cellAt 3 _ rfl
        have q1 := hpb3.cellAt 1 _ rfl
        clear ht
        go_wp2_with (fail)
        refine (puts_any b (.slice Au b.b.length cu) _).mono ?_
        rintro e w4 ⟨rfl, hB4⟩
        clear z0 z1 z2 z3 q1
        cases hpt : putsF b with
        | true =>
          have hkc : a0.k = 0 ∨ a0.k = 1 := by
            have := of_decide_eq_true hpt
            rw [Hbk.out] at this
            exact this
          obtain ⟨m, hm, hml⟩ : ∃ m : Nat, min (max cut 0) (b.b.length : Int) = (m : Int) ∧ m ≤ b.b.length := ⟨(min (max cut 0) (b.b.length : Int)).toNat, by omega, by omega⟩
          have htk : a0.b.take (if cut < 0 then 0 else cut.toNat) = b.b.take m := by
            have h1 : b.b = a0.b := by rw [Hb.out]; unfold nrmA; rw [if_pos hkc]
            rw [h1] at hm hml ⊢
            rw [List.take_eq_take_iff]
            split <;> omega
          have hdn : Hid (crS keep torn cut L i a0 = doneF L { b with b := b.b.take m }) := hid (by
            unfold crS
            rw [if_pos ⟨Ht.out, by omega⟩, ← done_nrm L (tornF a0 cut)]
            have e1 : nrmA (tornF a0 cut) = { b with b := b.b.take m } := by
              rw [← htk, Hb.out]
              unfold nrmA tornF
              dsimp only
              rw [if_pos hkc, if_pos hkc]
            rw [e1])
          obtain ⟨p, hpe⟩ : ∃ p : Ac, p = { b with b := b.b.take m } := ⟨_, rfl⟩
          rw [← hpe] at hdn
          have hps : AcSm p := by rw [hpe]; exact ⟨by have := hbs.b; simp; omega, hbs.keep, hbs.cut, hbs.m, hbs.nn, hbs.tt⟩
          have hflp : ((findF L p.n).getD []).length ≤ 1000000000 := by rw [hpe]; exact hfl
          have Hpe := hid hpe
          clear htk hpt hkc Ht hpe
          have hbx4 := hbx.below hB4
          have hb4 := hb3.below hB4
          have hp4 := hpb3.below hB4
          have hu4 := hu3.below hB4
          have hz4 := hB4.size
          have HS : Hid (∀ W, Ch (gX s M') w4 W → W.cell? ⟨x, 1, none⟩ = some (.map (some s))) := hid fun W hc => (hbx4.ch hc hxM).cellAt 1 _ rfl
          have HA : Hid (∀ W, Ch (gX s M') w4 W → W.rangeAt ga 0 (apL b (.slice Au b.b.length cu))) := hid fun W hc => (hb4.ch hc hgM).whole
          have HQ : Hid (∀ W, Ch (gX s M') w4 W → W.cell? ⟨gp, 2, none⟩ = some (.int .i64 cut)) := hid fun W hc => (hp4.ch hc hpM).cellAt 2 _ rfl
          have HFM : Hid (∀ y, F y → ¬ M' y ∧ y ≠ s) := hid fun y e => ⟨fun e2 => by
            rcases HM'.out y e2 with e3 | e3
            · have := (Hh.out.cm y e3).1; have := (Hh.out.cF y e).1; omega
            · have := hFw y e; omega, fun e2 => by have := (Hh.out.cF y e).1; have := Hh.out.cs; rw [← e2] at this; omega⟩
          have HU : Hid (∀ W, Ch (gX s M') w4 W → Rd W F (.slice Au b.b.length cu) (bys b.b)) := hid fun W hc => hu4.ch hc (fun y e e2 => by rcases e2 with e2 | e2; exact (HFM.out y e).2 e2; exact (HFM.out y e).1 e2)
          have hX4 : FX w4 M' s L := ⟨hX3.1.below hB4, hX3.2.1, fun y e => by have := hX3.2.2 y e; omega⟩
          have HX4 : Hid (FX w4.drew M' s L) := hid ⟨hX4.1.keep rfl (fun _ _ _ => rfl), hX4.2.1, hX4.2.2⟩
          have HX5 := hid hX4
          have hC4 := hC3.belowR hB4
          have q0 := hp4.cellAt 0 _ rfl
          have q1 := hp4.cellAt 1 _ rfl
          clear hbx4 hb4 hp4 hu4 hX4 hbx hb3 hpb3 hu3 hX3 hC3 hB4 hgM hxM hpM
          go_upto_region 6 with (fail)
          refine wp_region_noPanic ?_
          refine wp_region_held_drew (S := Ch (gX s M') w4) (by kernel_rfl) ((Ch.refl _ _).drew) (fun hHeld => ?_)
          refine wpAnyH_take (i := 0) (oi := ⟨some 26, _, _, _, _, none⟩) (v := ?_) rfl (by kernel_rfl) (by kernel_rfl) (by kernel_rfl) (fun _ _ _ h => h) (Or.inl ⟨by rfl, ?_⟩) (by assumption) ?_
          rotate_left
          · intro w hSw; go_simp; try with_reducible rfl
          try simp only [Act.put, List.setIfInBounds_toArray, List.set_cons_zero, List.set_cons_succ]
          refine wpAnyH_take (i := 1) (oi := ⟨some 27, _, _, _, _, none⟩) (v := ?_) rfl (by kernel_rfl) (by kernel_rfl) (by kernel_rfl) (fun _ _ _ h => h) (Or.inl ⟨by rfl, ?_⟩) (by assumption) ?_
          rotate_left
          · intro w hSw; go_simp; try with_reducible rfl
          try simp only [Act.put, List.setIfInBounds_toArray, List.set_cons_zero, List.set_cons_succ]
          refine wpAnyH_take (i := 2) (oi := ⟨some 28, _, _, _, _, none⟩) (v := ?_) rfl (by kernel_rfl) (by kernel_rfl) (by kernel_rfl) (fun _ _ _ h => h) (Or.inl ⟨by rfl, ?_⟩) (by assumption) ?_
          rotate_left
          · intro w hSw; go_simp; try with_reducible rfl
          try simp only [Act.put, List.setIfInBounds_toArray, List.set_cons_zero, List.set_cons_succ]
          refine wpAnyH_take (i := 3) (oi := ⟨some 29, _, _, _, _, none⟩) (v := ?_) rfl (by kernel_rfl) (by kernel_rfl) (by kernel_rfl) (fun _ _ _ h => h) (Or.inl ⟨by rfl, ?_⟩) (by assumption) ?_
          rotate_left
          · intro w hSw; have hcw := HS.out w hSw; go_simp; try with_reducible rfl
          try simp only [Act.put, List.setIfInBounds_toArray, List.set_cons_zero, List.set_cons_succ]
          refine wpAnyH_take (i := 4) (oi := ⟨some 30, .load 76 (.tmp 5), _, _, _, none⟩) (v := _) rfl (by kernel_rfl) (by kernel_rfl) (by kernel_rfl) (fun _ _ _ h => h) (yieldsIf_load_mid (by rfl) 76 (.tmp 5) (by rfl) _ (0) (by rfl) _ _ (fun _ hs => HA.out _ hs) Try.underlying76 rfl (sizeTh)) (by assumption) ?_
          try simp only [Act.put, List.setIfInBounds_toArray, List.set_cons_zero, List.set_cons_succ]
          refine wpAnyH_take (i := 5) (oi := ⟨some 31, _, _, _, _, none⟩) (v := ?_) rfl (by kernel_rfl) (by kernel_rfl) (by kernel_rfl) (fun _ _ _ h => h) (Or.inl ⟨by rfl, ?_⟩) (by assumption) ?_
          rotate_left
          · intro w hSw; go_simp; try with_reducible rfl
          try simp only [Act.put, List.setIfInBounds_toArray, List.set_cons_zero, List.set_cons_succ]
          refine wpAnyH_take (i := 6) (oi := ⟨some 32, _, _, _, _, none⟩) (v := ?_) rfl (by kernel_rfl) (by kernel_rfl) (by kernel_rfl) (fun _ _ _ h => h) (Or.inl ⟨by rfl, ?_⟩) (by assumption) ?_
          rotate_left
          · intro w hSw; have hcw := HQ.out w hSw; go_simp; try with_reducible rfl
          try simp only [Act.put, List.setIfInBounds_toArray, List.set_cons_zero, List.set_cons_succ]
          refine wpAnyH_ready (rs := [7]) (by kernel_rfl) (by simp) ?_
          refine AllReadyH.cons (o := ⟨some 33, _, _, _, _, none⟩) rfl (fun K hK => ?_) AllReadyH.nil
          go_simp
          refine (cut_p b p F _ cut m _ Hpe.out (HU.out _ hHeld) hm hml).mono ?_
          rintro e w6 ⟨v6, rfl, hv6, hB6⟩
          obtain ⟨A6, c6, rfl⟩ := hv6.shape
          have hX6 : FX w6 M' s L := ⟨HX4.out.1.below hB6, HX4.out.2.1, fun y e => by have := HX4.out.2.2 y e; have := hB6.size; omega⟩
          refine hK.out _ _ (hHeld.belowG hB6) (fun hHeld => ?_)
          clear hK K
          try simp only [Act.put, List.setIfInBounds_toArray, List.set_cons_zero, List.set_cons_succ]
          refine wpAnyH_ready (rs := [8]) (by kernel_rfl) (by simp) ?_
          refine AllReadyH.cons (o := ⟨some 34, _, _, _, _, none⟩) rfl (fun K hK => ?_) AllReadyH.nil
          go_simp
          refine (do_e s L M' F p _ _ hX6 HFM.out hv6 hLn hps.nn hps.tt hps.b hflp).mono ?_
          rintro e w5 ⟨rfl, ⟨M5, hX5, hM5⟩, hC5⟩
          refine hK.out _ _ (hHeld.trans hC5) (fun hHeld => ?_)
          clear hK K
          try simp only [Act.put, List.setIfInBounds_toArray, List.set_cons_zero, List.set_cons_succ]
          refine wpAnyH_done (by kernel_rfl) ?_ _
          refine NoPanic.normal ?_
          have hC5q : Ch (gX s M') w4 w5 := hHeld
          have hz5 := hC5q.size
          have HX6 : Hid (FX w5 M5 s (crF keep torn cut 0 d.syn (d.pend.take (i + 1)))) := hid (by
            rw [HS2.out, hdn.out]
            exact ⟨hX5.1.perm (doM_perm L _), hX5.2⟩)
          have HM6 : Hid (∀ y, M5 y → Ms y ∨ w0.heap.size ≤ y) := hid fun y e => by
            rcases hM5 y e with e2 | e2
            · exact HM'.out y e2
            · have e2 : w4.heap.size ≤ y := Nat.le_trans hB6.size e2
              exact .inr (by omega)
          have hC6 : Ch (gX s Ms) w0 w5 := hC4.transN hC5q (by
            rintro y (e | e)
            · exact .inl (.inl e)
            · exact (HM'.out y e).imp .inr id)
          clear hX5 hM5 hC5 hC5q hHeld HX4 HX5 HU HS HA HFM HQ hC4 q0 q1
          go_wp2
          go_roundw
          case rel => exact ⟨i + 1, M5, by omega, by go_num, HX6.out, HM6.out, hC6⟩
          case measure => simp [intOf]; omega
        | false =>
          have hcS : Hid (crS keep torn cut L i a0 = if keep / 2 ^ (i % 64) % 2 = 1 then doneF L a0 else L) := hid (by
            unfold crS
            rw [if_neg (fun h => ?_)]
            have h2 := of_decide_eq_false hpt
            rw [Hbk.out] at h2
            have := h.2
            omega)
          clear hpt Ht
          have hbx4 := hbx.below hB4
          have hb4 := hb3.below hB4
          have hp4 := hpb3.below hB4
          have hu4 := hu3.below hB4
          have hz4 := hB4.size
          have HS : Hid (∀ W, Ch (gX s M') w4 W → W.cell? ⟨x, 1, none⟩ = some (.map (some s))) := hid fun W hc => (hbx4.ch hc hxM).cellAt 1 _ rfl
          have HA : Hid (∀ W, Ch (gX s M') w4 W → W.rangeAt ga 0 (apL b (.slice Au b.b.length cu))) := hid fun W hc => (hb4.ch hc hgM).whole
          have HQ : Hid (∀ W, Ch (gX s M') w4 W → W.cell? ⟨gp, 2, none⟩ = some (.int .i64 cut)) := hid fun W hc => (hp4.ch hc hpM).cellAt 2 _ rfl
          have HFM : Hid (∀ y, F y → ¬ M' y ∧ y ≠ s) := hid fun y e => ⟨fun e2 => by
            rcases HM'.out y e2 with e3 | e3
            · have := (Hh.out.cm y e3).1; have := (Hh.out.cF y e).1; omega
            · have := hFw y e; omega, fun e2 => by have := (Hh.out.cF y e).1; have := Hh.out.cs; rw [← e2] at this; omega⟩
          have HU : Hid (∀ W, Ch (gX s M') w4 W → Rd W F (.slice Au b.b.length cu) (bys b.b)) := hid fun W hc => hu4.ch hc (fun y e e2 => by rcases e2 with e2 | e2; exact (HFM.out y e).2 e2; exact (HFM.out y e).1 e2)
          have hX4 : FX w4 M' s L := ⟨hX3.1.below hB4, hX3.2.1, fun y e => by have := hX3.2.2 y e; omega⟩
          have HX4 : Hid (FX w4.drew M' s L) := hid ⟨hX4.1.keep rfl (fun _ _ _ => rfl), hX4.2.1, hX4.2.2⟩
          have HX5 := hid hX4
          have hC4 := hC3.belowR hB4
          have q0 := hp4.cellAt 0 _ rfl
          have q1 := hp4.cellAt 1 _ rfl
          clear hbx4 hb4 hp4 hu4 hX4 hbx hb3 hpb3 hu3 hX3 hC3 hB4 hgM hxM hpM
          by_cases hb1 : keep / 2 ^ (i % 64) % 2 = 1
          · have hbit : (bits BinOp.and IntKind.u64 ((keep : Int) / 2 ^ (i % 64)) 1 == 1) = true := by rw [bit_k _ _ hkp]; exact decide_eq_true hb1
            have hdn : Hid (crS keep torn cut L i a0 = doneF L b) := hid (by rw [hcS.out, if_pos hb1, Hb.out, done_nrm])
            clear hcS hb1
            go_upto_region 8 with (fail)
            clear hbit
            refine wp_region_noPanic ?_
            refine wp_region_held_drew (S := Ch (gX s M') w4) (by kernel_rfl) ((Ch.refl _ _).drew) (fun hHeld => ?_)
            refine wpAnyH_take (i := 0) (oi := ⟨some 42, _, _, _, _, none⟩) (v := ?_) rfl (by kernel_rfl) (by kernel_rfl) (by kernel_rfl) (fun _ _ _ h => h) (Or.inl ⟨by rfl, ?_⟩) (by assumption) ?_
            rotate_left
            · intro w hSw; go_simp; try with_reducible rfl
            try simp only [Act.put, List.setIfInBounds_toArray, List.set_cons_zero, List.set_cons_succ]
            refine wpAnyH_take (i := 1) (oi := ⟨some 43, _, _, _, _, none⟩) (v := ?_) rfl (by kernel_rfl) (by kernel_rfl) (by kernel_rfl) (fun _ _ _ h => h) (Or.inl ⟨by rfl, ?_⟩) (by assumption) ?_
            rotate_left
            · intro w hSw; go_simp; try with_reducible rfl
            try simp only [Act.put, List.setIfInBounds_toArray, List.set_cons_zero, List.set_cons_succ]
            refine wpAnyH_take (i := 2) (oi := ⟨some 44, _, _, _, _, none⟩) (v := ?_) rfl (by kernel_rfl) (by kernel_rfl) (by kernel_rfl) (fun _ _ _ h => h) (Or.inl ⟨by rfl, ?_⟩) (by assumption) ?_
            rotate_left
            · intro w hSw; go_simp; try with_reducible rfl
            try simp only [Act.put, List.setIfInBounds_toArray, List.set_cons_zero, List.set_cons_succ]
            refine wpAnyH_take (i := 3) (oi := ⟨some 45, _, _, _, _, none⟩) (v := ?_) rfl (by kernel_rfl) (by kernel_rfl) (by kernel_rfl) (fun _ _ _ h => h) (Or.inl ⟨by rfl, ?_⟩) (by assumption) ?_
            rotate_left
            · intro w hSw; have hcw := HS.out w hSw; go_simp; try with_reducible rfl
            try simp only [Act.put, List.setIfInBounds_toArray, List.set_cons_zero, List.set_cons_succ]
            refine wpAnyH_take (i := 4) (oi := ⟨some 46, .load 76 (.tmp 5), _, _, _, none⟩) (v := _) rfl (by kernel_rfl) (by kernel_rfl) (by kernel_rfl) (fun _ _ _ h => h) (yieldsIf_load_mid (by rfl) 76 (.tmp 5) (by rfl) _ (0) (by rfl) _ _ (fun _ hs => HA.out _ hs) Try.underlying76 rfl (sizeTh)) (by assumption) ?_
            try simp only [Act.put, List.setIfInBounds_toArray, List.set_cons_zero, List.set_cons_succ]
            refine wpAnyH_ready (rs := [5]) (by kernel_rfl) (by simp) ?_
            refine AllReadyH.cons (o := ⟨some 47, _, _, _, _, none⟩) rfl (fun K hK => ?_) AllReadyH.nil
            go_simp
            refine (do_e s L M' F b _ _ HX4.out HFM.out (HU.out _ hHeld) hLn hbs.nn hbs.tt hbs.b hfl).mono ?_
            rintro e w5 ⟨rfl, ⟨M5, hX5, hM5⟩, hC5⟩
            refine hK.out _ _ (hHeld.trans hC5) (fun hHeld => ?_)
            clear hK K
            try simp only [Act.put, List.setIfInBounds_toArray, List.set_cons_zero, List.set_cons_succ]
            refine wpAnyH_done (by kernel_rfl) ?_ _
            refine NoPanic.normal ?_
            have hC5q : Ch (gX s M') w4 w5 := hHeld
            have hz5 := hC5q.size
            have HX6 : Hid (FX w5 M5 s (crF keep torn cut 0 d.syn (d.pend.take (i + 1)))) := hid (by
              rw [HS2.out, hdn.out]
              exact ⟨hX5.1.perm (doM_perm L _), hX5.2⟩)
            have HM6 : Hid (∀ y, M5 y → Ms y ∨ w0.heap.size ≤ y) := hid fun y e => by
              rcases hM5 y e with e2 | e2
              · exact HM'.out y e2
              · have e2 : w4.heap.size ≤ y := e2
                exact .inr (by omega)
            have hC6 : Ch (gX s Ms) w0 w5 := hC4.transN hC5q (by
              rintro y (e | e)
              · exact .inl (.inl e)
              · exact (HM'.out y e).imp .inr id)
            clear hX5 hM5 hC5 hC5q hHeld HX4 HX5 HU HS HA HFM HQ hC4 q0 q1
            go_wp2
            go_roundw
            case rel => exact ⟨i + 1, M5, by omega, by go_num, HX6.out, HM6.out, hC6⟩
            case measure => simp [intOf]; omega
          · have hbit : (bits BinOp.and IntKind.u64 ((keep : Int) / 2 ^ (i % 64)) 1 == 1) = false := by rw [bit_k _ _ hkp]; exact decide_eq_false hb1
            have hdn : Hid (crS keep torn cut L i a0 = L) := hid (by rw [hcS.out, if_neg hb1])
            have HX6 : Hid (FX w4 M' s (crF keep torn cut 0 d.syn (d.pend.take (i + 1)))) := hid (by
              rw [HS2.out, hdn.out]
              exact HX5.out)
            clear hcS hb1 HX4 HX5 HU HS HA HFM HQ
            go_wp2
            go_roundw
            case rel => exact ⟨i + 1, M', by omega, by go_num, HX6.out, HM'.out, hC4⟩
            case measure => simp [intOf]; omega
      · have e0 : ((i : Int) == torn) = false := by simpa using ht
        have hcS : Hid (crS keep torn cut L i a0 = if keep / 2 ^ (i % 64) % 2 = 1 then doneF L a0 else L) := hid (by unfold crS; rw [if_neg (fun h => ht h.1)])
        obtain ⟨w4, hw4⟩ : ∃ u, u = w3 := ⟨_, rfl⟩
        have hB4 : Below w3.heap.size w3 w4 := by rw [hw4]; exact Below.refl _ _
        rw [← hw4]
        clear ht hw4
        have hbx4 := hbx.below hB4
        have hb4 := hb3.below hB4
        have hp4 := hpb3.below hB4
        have hu4 := hu3.below hB4
        have hz4 := hB4.size
        have HS : Hid (∀ W, Ch (gX s M') w4 W → W.cell? ⟨x, 1, none⟩ = some (.map (some s))) := hid fun W hc => (hbx4.ch hc hxM).cellAt 1 _ rfl
        have HA : Hid (∀ W, Ch (gX s M') w4 W → W.rangeAt ga 0 (apL b (.slice Au b.b.length cu))) := hid fun W hc => (hb4.ch hc hgM).whole
        have HQ : Hid (∀ W, Ch (gX s M') w4 W → W.cell? ⟨gp, 2, none⟩ = some (.int .i64 cut)) := hid fun W hc => (hp4.ch hc hpM).cellAt 2 _ rfl
        have HFM : Hid (∀ y, F y → ¬ M' y ∧ y ≠ s) := hid fun y e => ⟨fun e2 => by
          rcases HM'.out y e2 with e3 | e3
          · have := (Hh.out.cm y e3).1; have := (Hh.out.cF y e).1; omega
          · have := hFw y e; omega, fun e2 => by have := (Hh.out.cF y e).1; have := Hh.out.cs; rw [← e2] at this; omega⟩
        have HU : Hid (∀ W, Ch (gX s M') w4 W → Rd W F (.slice Au b.b.length cu) (bys b.b)) := hid fun W hc => hu4.ch hc (fun y e e2 => by rcases e2 with e2 | e2; exact (HFM.out y e).2 e2; exact (HFM.out y e).1 e2)
        have hX4 : FX w4 M' s L := ⟨hX3.1.below hB4, hX3.2.1, fun y e => by have := hX3.2.2 y e; omega⟩
        have HX4 : Hid (FX w4.drew M' s L) := hid ⟨hX4.1.keep rfl (fun _ _ _ => rfl), hX4.2.1, hX4.2.2⟩
        have HX5 := hid hX4
        have hC4 := hC3.belowR hB4
        have q0 := hp4.cellAt 0 _ rfl
        have q1 := hp4.cellAt 1 _ rfl
        clear hbx4 hb4 hp4 hu4 hX4 hbx hb3 hpb3 hu3 hX3 hC3 hB4 hgM hxM hpM
        by_cases hb1 : keep / 2 ^ (i % 64) % 2 = 1
        · have hbit : (bits BinOp.and IntKind.u64 ((keep : Int) / 2 ^ (i % 64)) 1 == 1) = true := by rw [bit_k _ _ hkp]; exact decide_eq_true hb1
          have hdn : Hid (crS keep torn cut L i a0 = doneF L b) := hid (by rw [hcS.out, if_pos hb1, Hb.out, done_nrm])
          clear hcS hb1
          go_upto_region 8 with (fail)
          clear hbit
          refine wp_region_noPanic ?_
          refine wp_region_held_drew (S := Ch (gX s M') w4) (by kernel_rfl) ((Ch.refl _ _).drew) (fun hHeld => ?_)
          refine wpAnyH_take (i := 0) (oi := ⟨some 42, _, _, _, _, none⟩) (v := ?_) rfl (by kernel_rfl) (by kernel_rfl) (by kernel_rfl) (fun _ _ _ h => h) (Or.inl ⟨by rfl, ?_⟩) (by assumption) ?_
          rotate_left
          · intro w hSw; go_simp; try with_reducible rfl
          try simp only [Act.put, List.setIfInBounds_toArray, List.set_cons_zero, List.set_cons_succ]
          refine wpAnyH_take (i := 1) (oi := ⟨some 43, _, _, _, _, none⟩) (v := ?_) rfl (by kernel_rfl) (by kernel_rfl) (by kernel_rfl) (fun _ _ _ h => h) (Or.inl ⟨by rfl, ?_⟩) (by assumption) ?_
          rotate_left
          · intro w hSw; go_simp; try with_reducible rfl
          try simp only [Act.put, List.setIfInBounds_toArray, List.set_cons_zero, List.set_cons_succ]
          refine wpAnyH_take (i := 2) (oi := ⟨some 44, _, _, _, _, none⟩) (v := ?_) rfl (by kernel_rfl) (by kernel_rfl) (by kernel_rfl) (fun _ _ _ h => h) (Or.inl ⟨by rfl, ?_⟩) (by assumption) ?_
          rotate_left
          · intro w hSw; go_simp; try with_reducible rfl
          try simp only [Act.put, List.setIfInBounds_toArray, List.set_cons_zero, List.set_cons_succ]
          refine wpAnyH_take (i := 3) (oi := ⟨some 45, _, _, _, _, none⟩) (v := ?_) rfl (by kernel_rfl) (by kernel_rfl) (by kernel_rfl) (fun _ _ _ h => h) (Or.inl ⟨by rfl, ?_⟩) (by assumption) ?_
          rotate_left
          · intro w hSw; have hcw := HS.out w hSw; go_simp; try with_reducible rfl
          try simp only [Act.put, List.setIfInBounds_toArray, List.set_cons_zero, List.set_cons_succ]
          refine wpAnyH_take (i := 4) (oi := ⟨some 46, .load 76 (.tmp 5), _, _, _, none⟩) (v := _) rfl (by kernel_rfl) (by kernel_rfl) (by kernel_rfl) (fun _ _ _ h => h) (yieldsIf_load_mid (by rfl) 76 (.tmp 5) (by rfl) _ (0) (by rfl) _ _ (fun _ hs => HA.out _ hs) Try.underlying76 rfl (sizeTh)) (by assumption) ?_
          try simp only [Act.put, List.setIfInBounds_toArray, List.set_cons_zero, List.set_cons_succ]
          refine wpAnyH_ready (rs := [5]) (by kernel_rfl) (by simp) ?_
          refine AllReadyH.cons (o := ⟨some 47, _, _, _, _, none⟩) rfl (fun K hK => ?_) AllReadyH.nil
          go_simp
          refine (do_e s L M' F b _ _ HX4.out HFM.out (HU.out _ hHeld) hLn hbs.nn hbs.tt hbs.b hfl).mono ?_
          rintro e w5 ⟨rfl, ⟨M5, hX5, hM5⟩, hC5⟩
          refine hK.out _ _ (hHeld.trans hC5) (fun hHeld => ?_)
          clear hK K
          try simp only [Act.put, List.setIfInBounds_toArray, List.set_cons_zero, List.set_cons_succ]
          refine wpAnyH_done (by kernel_rfl) ?_ _
          refine NoPanic.normal ?_
          have hC5q : Ch (gX s M') w4 w5 := hHeld
          have hz5 := hC5q.size
          have HX6 : Hid (FX w5 M5 s (crF keep torn cut 0 d.syn (d.pend.take (i + 1)))) := hid (by
            rw [HS2.out, hdn.out]
            exact ⟨hX5.1.perm (doM_perm L _), hX5.2⟩)
          have HM6 : Hid (∀ y, M5 y → Ms y ∨ w0.heap.size ≤ y) := hid fun y e => by
            rcases hM5 y e with e2 | e2
            · exact HM'.out y e2
            · have e2 : w4.heap.size ≤ y := e2
              exact .inr (by omega)
          have hC6 : Ch (gX s Ms) w0 w5 := hC4.transN hC5q (by
            rintro y (e | e)
            · exact .inl (.inl e)
            · exact (HM'.out y e).imp .inr id)
          clear hX5 hM5 hC5 hC5q hHeld HX4 HX5 HU HS HA HFM HQ hC4 q0 q1
          go_wp2
          go_roundw
          case rel => exact ⟨i + 1, M5, by omega, by go_num, HX6.out, HM6.out, hC6⟩
          case measure => simp [intOf]; omega
        · have hbit : (bits BinOp.and IntKind.u64 ((keep : Int) / 2 ^ (i % 64)) 1 == 1) = false := by rw [bit_k _ _ hkp]; exact decide_eq_false hb1
          have hdn : Hid (crS keep torn cut L i a0 = L) := hid (by rw [hcS.out, if_neg hb1])
          have HX6 : Hid (FX w4 M' s (crF keep torn cut 0 d.syn (d.pend.take (i + 1)))) := hid (by
            rw [HS2.out, hdn.out]
            exact HX5.out)
          clear hcS hb1 HX4 HX5 HU HS HA HFM HQ
          go_wp2
          go_roundw
          case rel => exact ⟨i + 1, M', by omega, by go_num, HX6.out, HM'.out, hC4⟩
          case measure => simp [intOf]; omega
    · have hi' : i = d.pend.length := by omega
      subst hi'
      have hI : ¬ (d.pend.length : Int) < (d.pend.length : Int) := by omega
      rw [List.take_length] at hX
      have hbd := cr_bd keep torn cut d.pend 0 d.syn
      obtain ⟨L, hL⟩ : ∃ L, L = crF keep torn cut 0 d.syn d.pend := ⟨_, rfl⟩
      rw [← hL] at hX hbd
      have HL := hid hL
      have hLn : L.length < maxLen := by simp only [maxLen]; omega
      have hLt : tot L ≤ 1000000000 := by omega
      have hbx : Blk wr x 64 [.int .i64 d.room, .map (some s), .map (some f), .slice Ap d.pend.length cp, .int .i64 (max d.fuse (-1)), .bool d.down] := H0.out.hb.keep (hck x hxw (by have := Hh.out.cx; omega) (by have := Hh.out.cx; omega))
      have c1 := hbx.cellAt 1 _ rfl
      have HX := hid hX
      have HM' := hid hM'
      have HC := hid hC
      have hcl : ∀ (s f : Nat) (vp : Value) (r u : Int) (z : Bool), [Value.int .i64 r, .map (some s), .map (some f), vp, .int .i64 u, .bool z].length = 6 := fun _ _ _ _ _ _ => rfl
      clear hL hX hM' hC hck hi hlt hbd hpb
      go_wp2_with (fail)
      refine (copied_e s L M' _ HX.out hLn hLt).mono ?_
      rintro e w4 ⟨f2, M2, rfl, hf2, hX2, hM2, hB4⟩
      have hb4 := hbx.below hB4
      have hxr := hbx.lt
      have HX2 := hid hX2
      clear hbx c1 hX2
      go_wp2_with (refine wp_st1 61 (.tmp 57) (.tmp 55) rfl rfl rfl (f := 2) rfl (v := .map (some f2)) rfl hb4 (by rw [hcl]; omega) sizeFs rfl rfl ?_; intro w5 hb5 hG5; refine wp_stop ?_)
      replace hb5 : Blk w5 x 64 [.int .i64 d.room, .map (some s), .map (some f2), .slice Ap d.pend.length cp, .int .i64 (max d.fuse (-1)), .bool d.down] := hb5
      refine wp_go ?_
      go_wp2_with (refine wp_st1 62 (.tmp 59) (.const (.slice none 0 0)) rfl rfl rfl (f := 3) rfl (v := .slice none 0 0) rfl hb5 (by rw [hcl]; omega) sizeSlTh rfl rfl ?_; intro w6 hb6 hG6; refine wp_stop ?_)
      replace hb6 : Blk w6 x 64 [.int .i64 d.room, .map (some s), .map (some f2), .slice none 0 0, .int .i64 (max d.fuse (-1)), .bool d.down] := hb6
      refine wp_go ?_
      go_wp2_with (refine wp_st1 3 (.tmp 63) (.const (.int .i64 (-1))) rfl rfl rfl (f := 4) rfl (v := .int .i64 (-1)) rfl hb6 (by rw [hcl]; omega) sizeI10 rfl rfl ?_; intro w7 hb7 hG7; refine wp_stop ?_)
      replace hb7 : Blk w7 x 64 [.int .i64 d.room, .map (some s), .map (some f2), .slice none 0 0, .int .i64 (-1), .bool d.down] := hb7
      refine wp_go ?_
      go_wp2_with (refine wp_st1 4 (.tmp 65) (.const (.bool false)) rfl rfl rfl (f := 5) rfl (v := .bool false) rfl hb7 (by rw [hcl]; omega) sizeBool rfl rfl ?_; intro w8 hb8 hG8; refine wp_stop ?_)
      have hdz : dcZ (crashF d keep torn cut) s f2 (.slice none 0 0) = [.int .i64 d.room, .map (some s), .map (some f2), .slice none 0 0, .int .i64 (-1), .bool false] := rfl
      have hb8 : Blk w8 x 64 (dcZ (crashF d keep torn cut) s f2 (.slice none 0 0)) := by rw [hdz]; exact hb8
      have hz4 := hB4.size
      have hz5 := hG5.size
      have hz6 := hG6.size
      have hz7 := hG7.size
      have hz8 := hG8.size
      have one : ∀ {a b : World}, a.grownBy b (some x) → ∀ y, y < a.heap.size → y ≠ x → b.heap[y]? = a.heap[y]? := fun h y hy hn => h.block y hy (by intro e; injection e with e; exact hn e)
      have hk8 : ∀ y, y < w4.heap.size → y ≠ x → w8.heap[y]? = w4.heap[y]? := fun y hy hn => (one hG8 y (by omega) hn).trans ((one hG7 y (by omega) hn).trans ((one hG6 y (by omega) hn).trans (one hG5 y hy hn)))
      have hzr := HC.out.size
      have hMx : ∀ y, M' y → y ≠ x := fun y e e2 => by
        rcases HM'.out y e with e3 | e3
        · have := (Hh.out.cm y e3).1; have := Hh.out.cx; rw [← e2] at this; omega
        · omega
      have hkr : ∀ y, y < wr.heap.size → y ≠ x → w8.heap[y]? = wr.heap[y]? := fun y hy hn => (hk8 y (by omega) hn).trans (hB4.block y hy)
      have hsyn : (crashF d keep torn cut).syn = L := HL.out.symm
      have hnow : nowF (crashF d keep torn cut) = L := HL.out.symm
      have hMr : ∀ y, M' y → y < wr.heap.size := HX.out.2.2
      have hsrL : srt L := by rw [HL.out]; exact srt_cr _ _ _ _ _ Hh.out.st
      have hn24 : ∀ f ∈ L, f.n.size ≤ 24 := by rw [HL.out]; exact cr_n24 _ _ _ _ _ Hh.out.nS Hh.out.pd
      have hI8 : IE w8 x s f2 M' M2 F (cX c w0.heap.size wr.heap.size f2) (crashF d keep torn cut) (.slice none 0 0) [] := {
        hb := hb8
        ms := by rw [hsyn]; exact HX.out.1.keep (hkr s HX.out.1.lt hsx) (fun y hy e => hkr y hy (hMx y e))
        mf := by rw [hnow]; exact HX2.out.1.keep (hk8 f2 HX2.out.1.lt (by omega)) (fun y hy e => hk8 y hy (by have := hM2 y e; omega))
        ho := ⟨by simp [crashF], .inl ⟨rfl, rfl⟩⟩
        hx := by simp [WdX, crashF]
        cx := by unfold cX; rw [if_pos (by omega)]; exact Hh.out.cx
        cs := by unfold cX; rw [if_pos (by omega)]; exact Hh.out.cs
        cf := by unfold cX; rw [if_neg (by omega), if_neg (by omega), if_pos rfl]
        cm := fun y e => ⟨by
          rcases HM'.out y e with e2 | e2
          · unfold cX; rw [if_pos (by have := hMsw y e2; omega)]; exact (Hh.out.cm y e2).1
          · unfold cX; rw [if_neg (by omega), if_pos (hMr y e)], by have := hMr y e; omega⟩
        cn := fun y e => ⟨by have := hM2 y e; unfold cX; rw [if_neg (by omega), if_neg (by omega), if_neg (by omega)], by have := HX2.out.2.2 y e; omega⟩
        cv := fun y e => by simp [Value.ownBlock] at e
        cF := fun y e => ⟨by unfold cX; rw [if_pos (by have := hFw y e; omega)]; exact (Hh.out.cF y e).1, by have := hFw y e; omega⟩
        st := by rw [hsyn]; exact hsrL
        dn := fun e => by cases e
        nS := by rw [hsyn]; exact hn24
        pd := fun _ e => by cases e }
      have toX : ∀ k, some x = some k → mIE x s f Ms Mf (.slice Ap d.pend.length cp) k ∨ w.heap.size ≤ k := fun k hk => .inl (.inl (by injection hk with hk; exact hk.symm))
      have hCw : Ch (mIE x s f Ms Mf (.slice Ap d.pend.length cp)) w w4 := (((Ch.refl _ w).belowR hal).transN HC.out (by
        rintro y (e | e)
        · exact .inl (.inr (.inl e))
        · exact .inl (.inr (.inr (.inr (.inl e)))))).belowR hB4
      have hC8 := (((hCw.grow hG5 toX).grow hG6 toX).grow hG7 toX).grow hG8 toX
      have hM8 : ∀ y, mIE x s f2 M' M2 (.slice none 0 0) y → mIE x s f Ms Mf (.slice Ap d.pend.length cp) y ∨ w.heap.size ≤ y := by
        rintro y (e | e | e | e | e | e)
        · exact .inl (.inl e)
        · exact .inl (.inr (.inl e))
        · exact .inr (by omega)
        · rcases HM'.out y e with e2 | e2
          · exact .inl (.inr (.inr (.inr (.inl e2))))
          · exact .inr (by omega)
        · exact .inr (by have := hM2 y e; omega)
        · simp [Value.ownBlock] at e
      have HI := hid hI8
      have HM8 := hid hM8
      clear hb4 hb5 hb6 hb7 hb8 hG5 hG6 hG7 hG8 hk8 hkr hI8 hM8 hB4 toX one hMx hM2
      refine wp_go ?_
      go_wp2
      refine Go.Great.bodyPost_end0 rfl rfl ?_
      exact ⟨rfl, s, f2, M', M2, F, _, _, _, HI.out, hC8, HM8.out, fun _ e => .inl e⟩
end Go.Proofs.Ytjaiffefgjopmaa
