/- E7: layer 10: Sync of the landed disk. -/
import Derived.Test.YtjaiffefgjopmaaE6
namespace Go.V
open Go.RowKit
theorem Ch.transN {G G' : Nat → Prop} {a b c : World} (h : Ch G a b) (k : Ch G' b c) (hG : ∀ y, G' y → G y ∨ a.heap.size ≤ y) : Ch G a c :=
  ⟨k.os.trans h.os, k.tape.trans h.tape, k.output.trans h.output, Nat.le_trans h.size k.size, fun y hy hn => (k.block y (Nat.lt_of_lt_of_le hy h.size) (fun e => (hG y e).elim hn (by omega))).trans (h.block y hy hn)⟩
theorem burn_same {d : Dk} (hd : d.down = true) (hf : d.fuse = 0) : (burnF d).1 = d := by
  obtain ⟨room, syn, pend, fuse, down⟩ := d
  dsimp only at hd hf
  subst hd hf
  rfl
theorem sync_do {d : Dk} {a : Ac} (hk : a.k = 4) : (doF d a).1 = if (burnF d).1.down = true then (burnF d).1 else { (burnF d).1 with syn := nowF d, pend := [] } := by
  unfold doF
  rw [if_pos hk]
  have e : (burnF d).2 = !(burnF d).1.down := rfl
  rw [e]
  cases (burnF d).1.down <;> rfl
theorem now_take (l : List Fl) (p : List Ac) (i : Nat) (a : Ac) (h : p[i]? = some a) : nowL l (p.take (i + 1)) = doneF (nowL l (p.take i)) a := by
  rw [take_snocF h, now_snoc]
theorem totA_le_take (l : List Fl) (p : List Ac) (i : Nat) : tot (nowL l (p.take i)) ≤ tot l + totA p ∧ (nowL l (p.take i)).length ≤ l.length + p.length := by
  have h1 := now_bd (p.take i) l
  have h2 := totA_take p i
  rw [List.length_take] at h1
  omega
def cT (c : Nat → Nat) (a : Nat) (y : Nat) : Nat := if y < a then c y else 3
end Go.V
namespace Go.Proofs.Ytjaiffefgjopmaa
open Go.RowKit Go.V Go.Maps
set_option maxRecDepth 100000 in
set_option maxHeartbeats 8000000 in
theorem sync_e (x s f : Nat) (Ms Mf F : Nat → Prop) (c : Nat → Nat) (d : Dk) (vp : Value) (xs : List Value) (a : Ac) (w : World) (h : IE w x s f Ms Mf F c d vp xs) (hs : DkSm d) (hk : a.k = 4) :
    Calls Try.prog 22 #[.pointer (some ⟨x, 0, none⟩)] w fun e w' => e = .returned (.tuple #[]) ∧ LfE w x s f Ms Mf F vp (doF d a).1 w' := by
  have hdo := sync_do (d := d) hk
  obtain ⟨R, hR⟩ : ∃ R, R = (doF d a).1 := ⟨_, rfl⟩
  rw [← hR] at hdo ⊢
  clear hR
  have c5 := h.hb.cellAt 5 _ rfl
  obtain ⟨Ap, cp, hvp⟩ := own_shape8 h.ho
  rw [hvp] at h ⊢
  clear hvp
  have Hh := hid h
  have hB2d : (burnF d).1.down = true → (burnF d).1.fuse = 0 := burn_down h.dn
  cases hd : d.down with
  | true =>
    rw [hd] at c5
    have Hdo : Hid (R = d) := hid (by
      rw [hdo, burn_same hd (h.dn hd), if_pos hd])
    clear hd hdo h hB2d
    go_enter Try.func22, Try.ntmps22
    go_wp2
    refine bodyPost_ret (results_none rfl _ _ _) rfl ?_
    rw [Hdo.out]
    exact ⟨rfl, Hh.out.same (Ch.refl _ _)⟩
  | false =>
    rw [hd] at c5
    have Hd := hid hd
    have Hdo := hid hdo
    clear hd hdo h
    go_enter Try.func22, Try.ntmps22
    go_wp2_with (fail)
    refine (blows_e x s f _ d _ Hh.out.hb hs.f Hd.out).mono ?_
    rintro e w2 ⟨rfl, hb2, hC2⟩
    obtain ⟨B, hBu⟩ : ∃ B, B = (burnF d).1 := ⟨_, rfl⟩
    have H2 : Hid (IE w2 x s f Ms Mf F c B (.slice Ap d.pend.length cp) xs) := hid (by rw [hBu]; exact Hh.out.blk hb2 hC2 rfl rfl hB2d)
    have HBp : Hid (B.pend = d.pend) := hid (by rw [hBu]; rfl)
    have HBm : Hid (nowF B = nowF d) := hid (by rw [hBu]; rfl)
    have HBs : Hid (B.syn = d.syn) := hid (by rw [hBu]; rfl)
    have HBd : Hid (B.down = true → B.fuse = 0) := hid (by rw [hBu]; exact hB2d)
    have Hdo1 : Hid (R = if B.down = true then B else { B with syn := nowF d, pend := [] }) := hid (by rw [hBu]; exact Hdo.out)
    rw [← hBu]
    have hC2w : Ch (mIE x s f Ms Mf (.slice Ap d.pend.length cp)) w w2 := hC2.weaken (fun k _ e => .inl e)
    clear hBu hB2d hb2 hC2 Hdo c5
    cases hdB : B.down with
    | true =>
      have Hdo2 : Hid (R = B) := hid (by rw [Hdo1.out, if_pos hdB])
      clear hdB
      go_wp2
      refine bodyPost_ret (results_none rfl _ _ _) rfl ?_
      rw [Hdo2.out]
      exact ⟨rfl, s, f, Ms, Mf, F, c, _, xs, H2.out, hC2w, fun _ e => .inl e, fun _ e => .inl e⟩
    | false =>
      have Hdo2 : Hid (R = { B with syn := nowF d, pend := [] }) := hid (by rw [Hdo1.out, if_neg (by rw [hdB]; simp)])
      have c3 := H2.out.hb.cellAt 3 _ rfl
      have hsn := hs.n
      have hst := hs.t
      have hX2 : FX w2 Ms s (nowL d.syn (d.pend.take 0)) := by have := H2.out.fxs; rw [HBs.out] at this; exact this
      have hwz := hC2w.size
      have ho2 : w2.ownsRow 0 76 4 (.slice Ap d.pend.length cp) d.pend.length xs := by have := H2.out.ho; rw [HBp.out] at this; exact this
      have hx2 : WdX w2 F apD (d.pend.map nrmA) xs := by have := H2.out.hx; rw [HBp.out] at this; exact this
      have Ho2 := hid ho2
      have Hx2 := hid hx2
      have hxw : x < w.heap.size := Hh.out.hb.lt
      have hsw : s < w.heap.size := Hh.out.ms.lt
      have hMsw : ∀ y, Ms y → y < w.heap.size := fun y e => (Hh.out.cm y e).2
      have hFw : ∀ y, F y → y < w.heap.size := fun y e => (Hh.out.cF y e).2
      have hsx : s ≠ x := fun e => by have := Hh.out.cx; have := Hh.out.cs; rw [e] at this; omega
      clear hdB ho2 hx2 Hdo1
      go_wp2
      clear c3
      go_loopw [21] (fun iv wr => ∃ (i : Nat) (M' : Nat → Prop), i ≤ d.pend.length ∧ iv = .int .i64 i ∧ FX wr M' s (nowL d.syn (d.pend.take i)) ∧ (∀ y, M' y → Ms y ∨ w2.heap.size ≤ y) ∧ Ch (gX s Ms) w2 wr) (fun i _ => d.pend.length - (intOf i).toNat)
      case atStart => exact ⟨0, Ms, Nat.zero_le _, rfl, hX2, fun _ e => .inl e, Ch.refl _ _⟩
      case round =>
        obtain ⟨i, M', hi, rfl, hX, hM', hC⟩ := hrel
        have hzr := hC.size
        have hck : ∀ y, y < w.heap.size → c y ≠ 1 → c y ≠ 3 → wr.heap[y]? = w2.heap[y]? := fun y hy h1 h3 => hC.block y (by omega) (by rintro (e | e); (have := Hh.out.cs; rw [e] at h1; omega); (have := (Hh.out.cm y e).1; omega))
        by_cases hlt : i < d.pend.length
        · obtain ⟨a0, ha⟩ : ∃ a0, d.pend[i]? = some a0 := ⟨_, List.getElem?_eq_getElem hlt⟩
          have hI : (i : Int) < (d.pend.length : Int) := by omega
          have han : (d.pend.map nrmA)[i]? = some (nrmA a0) := by rw [List.getElem?_map, ha]; rfl
          obtain ⟨b, hbb⟩ : ∃ b, b = nrmA a0 := ⟨_, rfl⟩
          rw [← hbb] at han
          have Hb := hid hbb
          have hok := H2.out.pd a0 (by rw [HBp.out]; exact List.mem_of_getElem? ha)
          have hbs : AcSm b := by rw [hbb]; exact nrm_sm hok.sm
          clear hbb
          have hor := own_keep10 Ho2.out (fun k _ he => hck k (Hh.out.ho.lt k he).2 (by have := Hh.out.cv k he; omega) (by have := Hh.out.cv k he; omega))
          have hxr : WdX wr F apD (d.pend.map nrmA) xs := Hx2.out.keep (fun y _ e => ⟨e, hck y (hFw y e) (by have := (Hh.out.cF y e).1; omega) (by have := (Hh.out.cF y e).1; omega)⟩)
          obtain ⟨gr, cr, cs, hve, hrg, he⟩ := own_el hor hxr han
          injection hve with hve hve2 hve3
          subst hve hve3
          obtain ⟨u, rfl, hu⟩ := ap_open he
          obtain ⟨Au, cu, rfl⟩ := hu.shape
          have htk := totA_le_take d.syn d.pend i
          have hsn2 := now_take d.syn d.pend i a0 ha
          obtain ⟨L, hL⟩ : ∃ L, L = nowL d.syn (d.pend.take i) := ⟨_, rfl⟩
          rw [← hL] at hX htk hsn2
          have hLn : L.length < maxLen := by simp only [maxLen]; omega
          have hft := find_tot L b.n
          have hfl : ((findF L b.n).getD []).length ≤ 1000000000 := by omega
          have hin : IntKind.i64.wrap ((i : Int) + 1) = (i : Int) + 1 := IntWalk.i64_in _ (by omega)
          have HS2 := hid hsn2
          clear he hor hxr han ha hL hft htk hsn2 hok
          go_wp2_with (first | refine wp_ixa 62 (.tmp 19) (.tmp 21) rfl rfl rfl rfl Try.underlying62 hlt sizeTh ?_ | refine wp_ld 76 (.tmp 23) rfl rfl rfl hrg Try.underlying76 rfl sizeTh ?_ | (refine wp_newst 76 3 (.tmp 24) rfl rfl rfl rfl rfl rfl zeroTh (l := apL b (.slice Au b.b.length cu)) rfl rfl sizeTh (one_ap _ _ _ _) (by simp [Act.put]) ?_; intro w3 hb3 hB3 hz3; refine wp_stop ?_))
          obtain ⟨ga, hga⟩ : ∃ u, u = wr.heap.size := ⟨_, rfl⟩
          rw [← hga] at hb3 ⊢
          have hgar : wr.heap.size ≤ ga ∧ ga < w3.heap.size := ⟨by omega, hb3.lt⟩
          have hz3' := hB3.size
          have hMr : ∀ y, M' y → y < wr.heap.size := hX.2.2
          have hu3 := hu.below hB3
          have hX3 := hX.1.below hB3
          have HX3 : Hid (FX w3.drew M' s L) := hid ⟨hX3.keep rfl (fun _ _ _ => rfl), hX.2.1, fun y e => by show y < w3.heap.size; have := hMr y e; omega⟩
          have HU3 : Hid (Rd w3.drew F (.slice Au b.b.length cu) (bys b.b)) := hid hu3.drew
          have hgM : ¬ gX s M' ga := by
            rintro (e | e)
            · omega
            · have := hMr ga e; omega
          have hxM : ¬ gX s M' x := by
            rintro (e | e)
            · exact hsx e.symm
            · rcases hM' x e with e2 | e2
              · have := (Hh.out.cm x e2).1; have := Hh.out.cx; omega
              · omega
          have hbx : Blk w3 x 64 (dcZ B s f (.slice (some ⟨gr, 0, none⟩) d.pend.length cp)) := (H2.out.hb.keep (hck x hxw (by have := Hh.out.cx; omega) (by have := Hh.out.cx; omega))).below hB3
          have HS : Hid (∀ W, Ch (gX s M') w3 W → W.cell? ⟨x, 1, none⟩ = some (.map (some s))) := hid fun W hc => (hbx.ch hc hxM).cellAt 1 _ rfl
          have HA : Hid (∀ W, Ch (gX s M') w3 W → W.rangeAt ga 0 (apL b (.slice Au b.b.length cu))) := hid fun W hc => (hb3.ch hc hgM).whole
          have HFM : Hid (∀ y, F y → ¬ M' y ∧ y ≠ s) := hid fun y e => ⟨fun e2 => by
            rcases hM' y e2 with e3 | e3
            · have := (Hh.out.cm y e3).1; have := (Hh.out.cF y e).1; omega
            · have := hFw y e; omega, fun e2 => by have := (Hh.out.cF y e).1; have := Hh.out.cs; rw [← e2] at this; omega⟩
          have hC3 : Ch (gX s Ms) w2 w3 := hC.belowR hB3
          have HM' := hid hM'
          clear hX hX3 hu3 hu hrg hb3 hB3 hC hck hbx hM' hgM hxM hga hz3
          refine wp_go ?_
          go_upto_region 4 with (fail)
          refine wp_region_noPanic ?_
          refine wp_region_held_drew (S := Ch (gX s M') w3) (by kernel_rfl) ((Ch.refl _ _).drew) (fun hHeld => ?_)
          refine wpAnyH_take (i := 0) (oi := ⟨some 25, _, _, _, _, none⟩) (v := ?_) rfl (by kernel_rfl) (by kernel_rfl) (by kernel_rfl) (fun _ _ _ h => h) (Or.inl ⟨by rfl, ?_⟩) (by assumption) ?_
          rotate_left
          · intro w hSw; go_simp; try with_reducible rfl
          try simp only [Act.put, List.setIfInBounds_toArray, List.set_cons_zero, List.set_cons_succ]
          refine wpAnyH_take (i := 1) (oi := ⟨some 26, _, _, _, _, none⟩) (v := ?_) rfl (by kernel_rfl) (by kernel_rfl) (by kernel_rfl) (fun _ _ _ h => h) (Or.inl ⟨by rfl, ?_⟩) (by assumption) ?_
          rotate_left
          · intro w hSw; go_simp; try with_reducible rfl
          try simp only [Act.put, List.setIfInBounds_toArray, List.set_cons_zero, List.set_cons_succ]
          refine wpAnyH_take (i := 2) (oi := ⟨some 27, _, _, _, _, none⟩) (v := ?_) rfl (by kernel_rfl) (by kernel_rfl) (by kernel_rfl) (fun _ _ _ h => h) (Or.inl ⟨by rfl, ?_⟩) (by assumption) ?_
          rotate_left
          · intro w hSw; go_simp; try with_reducible rfl
          try simp only [Act.put, List.setIfInBounds_toArray, List.set_cons_zero, List.set_cons_succ]
          refine wpAnyH_take (i := 3) (oi := ⟨some 28, _, _, _, _, none⟩) (v := ?_) rfl (by kernel_rfl) (by kernel_rfl) (by kernel_rfl) (fun _ _ _ h => h) (Or.inl ⟨by rfl, ?_⟩) (by assumption) ?_
          rotate_left
          · intro w hSw; have hcw := HS.out w hSw; go_simp; try with_reducible rfl
          try simp only [Act.put, List.setIfInBounds_toArray, List.set_cons_zero, List.set_cons_succ]
          refine wpAnyH_take (i := 4) (oi := ⟨some 29, .load 76 (.tmp 3), _, _, _, none⟩) (v := _) rfl (by kernel_rfl) (by kernel_rfl) (by kernel_rfl) (fun _ _ _ h => h) (yieldsIf_load_mid (by rfl) 76 (.tmp 3) (by rfl) _ (0) (by rfl) _ _ (fun _ hs => HA.out _ hs) Try.underlying76 rfl (sizeTh)) (by assumption) ?_
          try simp only [Act.put, List.setIfInBounds_toArray, List.set_cons_zero, List.set_cons_succ]
          refine wpAnyH_ready (rs := [5]) (by kernel_rfl) (by simp) ?_
          refine AllReadyH.cons (o := ⟨some 30, _, _, _, _, none⟩) rfl (fun K hK => ?_) AllReadyH.nil
          go_simp
          refine (do_e s L M' F b _ _ HX3.out HFM.out HU3.out hLn hbs.nn hbs.tt hbs.b hfl).mono ?_
          rintro e w5 ⟨rfl, ⟨M5, hX5, hM5⟩, hC5⟩
          refine hK.out _ _ (hHeld.trans hC5) (fun hHeld => ?_)
          clear hK K
          try simp only [Act.put, List.setIfInBounds_toArray, List.set_cons_zero, List.set_cons_succ]
          refine wpAnyH_done (by kernel_rfl) ?_ _
          refine NoPanic.normal ?_
          have hC5q : Ch (gX s M') w3 w5 := hHeld
          have hz5 := hC5q.size
          have HX6 : Hid (FX w5 M5 s (nowL d.syn (d.pend.take (i + 1)))) := hid (by
            rw [HS2.out]
            refine ⟨?_, hX5.2⟩
            have e1 := hX5.1.perm (doM_perm L b)
            rw [show doneF L b = doneF L a0 from by rw [Hb.out]; exact done_nrm _ _] at e1
            exact e1)
          have HM6 : Hid (∀ y, M5 y → Ms y ∨ w2.heap.size ≤ y) := hid fun y e => by
            rcases hM5 y e with e2 | e2
            · exact HM'.out y e2
            · have e2 : w3.heap.size ≤ y := e2
              exact .inr (by omega)
          have hC6 : Ch (gX s Ms) w2 w5 := hC3.transN hC5q (by
            rintro y (e | e)
            · exact .inl (.inl e)
            · exact (HM'.out y e).imp .inr id)
          clear hX5 hM5 hC5 hC5q hHeld HX3 HU3 HS HA HFM hC3
          go_wp2
          go_roundw
          case rel => exact ⟨i + 1, M5, by omega, by go_num, HX6.out, HM6.out, hC6⟩
          case measure => simp [intOf]; omega
        · have hi' : i = d.pend.length := by omega
          subst hi'
          have hI : ¬ (d.pend.length : Int) < (d.pend.length : Int) := by omega
          rw [List.take_length] at hX
          have hbx : Blk wr x 64 (dcZ B s f (.slice Ap d.pend.length cp)) := H2.out.hb.keep (hck x hxw (by have := Hh.out.cx; omega) (by have := Hh.out.cx; omega))
          have HX := hid hX
          have HM' := hid hM'
          have HC := hid hC
          have Hck := hid hck
          have hcl : (dcZ B s f (.slice Ap d.pend.length cp)).length = 6 := rfl
          clear hX hM' hC hck hi hlt
          go_wp2_with (refine wp_st1 62 (.tmp 34) (.const (.slice none 0 0)) rfl rfl rfl (f := 3) rfl (v := .slice none 0 0) rfl hbx (by rw [hcl]; omega) sizeSlTh rfl rfl ?_; intro w6 hb6 hG6; refine wp_stop ?_)
          have hb6 : Blk w6 x 64 (dcZ { B with syn := nowF d, pend := [] } s f (.slice none 0 0)) := hb6
          have hz6 := hG6.size
          have hk6 : ∀ y, y < wr.heap.size → y ≠ x → w6.heap[y]? = wr.heap[y]? := fun y hy hn => hG6.block y hy (fun e => by injection e with e; exact hn e)
          have hMx : ∀ y, M' y → y ≠ x := fun y e e2 => by
            rcases HM'.out y e with e3 | e3
            · have := (Hh.out.cm y e3).1; have := Hh.out.cx; rw [← e2] at this; omega
            · omega
          have hmf2 : FO Try.prog 9 5 w2 Mf anyN f (nowF d) := by have := H2.out.mf; rw [HBm.out] at this; exact this
          have hkf : ∀ y, y < w.heap.size → c y = 2 ∨ c y = 4 → w6.heap[y]? = w2.heap[y]? := fun y hy e => (hk6 y (by omega) (fun e2 => by have := Hh.out.cx; rw [← e2] at this; omega)).trans (Hck.out y hy (by omega) (by omega))
          have hI6 : IE w6 x s f M' Mf F (cT c w2.heap.size) { B with syn := nowF d, pend := [] } (.slice none 0 0) [] := {
            hb := hb6
            ms := HX.out.1.keep (hk6 s HX.out.1.lt hsx) (fun y hy e => hk6 y hy (hMx y e))
            mf := hmf2.keep (hkf f Hh.out.mf.lt (.inl Hh.out.cf)) (fun y _ e => hkf y (Hh.out.cn y e).2 (.inr (Hh.out.cn y e).1))
            ho := ⟨by simp, .inl ⟨rfl, rfl⟩⟩
            hx := by simp [WdX]
            cx := by unfold cT; rw [if_pos (by omega)]; exact Hh.out.cx
            cs := by unfold cT; rw [if_pos (by omega)]; exact Hh.out.cs
            cf := by unfold cT; rw [if_pos (by have := Hh.out.mf.lt; omega)]; exact Hh.out.cf
            cm := fun y e => ⟨by
              rcases HM'.out y e with e2 | e2
              · unfold cT; rw [if_pos (by have := hMsw y e2; omega)]; exact (Hh.out.cm y e2).1
              · unfold cT; rw [if_neg (by omega)], by have := HX.out.2.2 y e; omega⟩
            cn := fun y e => ⟨by unfold cT; rw [if_pos (by have := (Hh.out.cn y e).2; omega)]; exact (Hh.out.cn y e).1, by have := (Hh.out.cn y e).2; omega⟩
            cv := fun y e => by simp [Value.ownBlock] at e
            cF := fun y e => ⟨by unfold cT; rw [if_pos (by have := hFw y e; omega)]; exact (Hh.out.cF y e).1, by have := hFw y e; omega⟩
            st := srt_now _ Hh.out.st
            dn := HBd.out
            nS := Hh.out.nf
            pd := fun _ e => by cases e }
          have hC6 : Ch (mIE x s f Ms Mf (.slice Ap d.pend.length cp)) w w6 := ((hC2w.transN HC.out (by
            rintro y (e | e)
            · exact .inl (.inr (.inl e))
            · exact .inl (.inr (.inr (.inr (.inl e)))))).grow hG6 (fun k hk => .inl (.inl (by injection hk with hk; exact hk.symm))))
          have hM6 : ∀ y, mIE x s f M' Mf (.slice none 0 0) y → mIE x s f Ms Mf (.slice Ap d.pend.length cp) y ∨ w.heap.size ≤ y := by
            rintro y (e | e | e | e | e | e)
            · exact .inl (.inl e)
            · exact .inl (.inr (.inl e))
            · exact .inl (.inr (.inr (.inl e)))
            · rcases HM'.out y e with e2 | e2
              · exact .inl (.inr (.inr (.inr (.inl e2))))
              · exact .inr (by omega)
            · exact .inl (.inr (.inr (.inr (.inr (.inl e)))))
            · simp [Value.ownBlock] at e
          have HI := hid hI6
          have HM6 := hid hM6
          clear hb6 hG6 hk6 hkf hI6 hM6 hbx hMx hmf2
          refine wp_go ?_
          go_wp2
          refine Go.Great.bodyPost_end0 rfl rfl ?_
          rw [Hdo2.out]
          exact ⟨rfl, s, f, M', Mf, F, _, _, _, HI.out, hC6, HM6.out, fun _ e => .inl e⟩
end Go.Proofs.Ytjaiffefgjopmaa
