/- E5: layer 10: do: a thing that is done to the landed disk. -/
import Derived.Test.YtjaiffefgjopmaaE4
namespace Go.V
open Go.RowKit
theorem ref_nrm (d : Dk) (a : Ac) : refF d (nrmA a) = refF d a := by
  unfold refF szA
  rw [nrm_k, nrm_n]
  by_cases h2 : a.k = 2
  · have e : (nrmA a).t = a.t := by unfold nrmA; rw [if_neg (by omega), if_pos h2]
    rw [e, if_neg (show ¬ (a.k = 0 ∨ a.k = 1) by omega), if_neg (show ¬ (a.k = 0 ∨ a.k = 1) by omega)]
  · by_cases h1 : a.k = 0 ∨ a.k = 1
    · have e : (nrmA a).b = a.b := by unfold nrmA; rw [if_pos h1]
      rw [e]
      simp [h2]
    · rw [if_neg h1, if_neg h1]
      simp [h2]
theorem ref_ok {d : Dk} {a : Ac} (hk : 0 ≤ a.k ∧ a.k ≤ 3) (ha : AcSm a) (h : refF d a = 0) : PdOk a := by
  have hn : ¬ (namF a.n = false ∨ (a.k = 2 ∧ namF a.t = false)) := fun e => by unfold refF at h; rw [if_pos e] at h; omega
  have h1 : namF a.n = true := by
    cases e : namF a.n with
    | false => exact absurd (.inl e) hn
    | true => rfl
  have hz : ByteArray.empty.size ≤ 24 := by simp
  refine ⟨hk, ha, (of_decide_eq_true h1).2, ?_⟩
  unfold nrmA
  split
  · exact hz
  · split
    · rename_i h2
      have h3 : namF a.t = true := by
        cases e : namF a.t with
        | false => exact absurd (.inr ⟨h2, e⟩) hn
        | true => rfl
      exact (of_decide_eq_true h3).2
    · exact hz
theorem push_dn (d : Dk) (a : Ac) : pushF d a = if (burnF d).1.down = true then ((burnF d).1, 14) else ({ (burnF d).1 with pend := d.pend ++ [a] }, 0) := by
  unfold pushF
  have e : (burnF d).2 = !(burnF d).1.down := rfl
  rw [e]
  cases (burnF d).1.down <;> rfl
theorem do_dn {d : Dk} {a : Ac} (hk : 0 ≤ a.k ∧ a.k ≤ 3) (hd : d.down = true) : doF d a = (d, 14) := by
  by_cases h01 : a.k = 0 ∨ a.k = 1
  · rw [do_put h01, if_pos hd]
  · rw [do_find (by omega), if_pos hd]
def cN (c : Nat → Nat) (a b e : Nat) (y : Nat) : Nat := if y < a then c y else if y < b then 6 else if y < e then 5 else 4
end Go.V
namespace Go.Proofs.Ytjaiffefgjopmaa
open Go.RowKit Go.V Go.Maps
/-- what is left of a disk, x its block ahead and behind -/
def LfE (w : World) (x s f : Nat) (Ms Mf F : Nat → Prop) (vp : Value) (r : Dk) (w' : World) : Prop :=
  ∃ (s' f' : Nat) (Ms' Mf' F' : Nat → Prop) (c' : Nat → Nat) (vp' : Value) (xs' : List Value), IE w' x s' f' Ms' Mf' F' c' r vp' xs' ∧ Ch (mIE x s f Ms Mf vp) w w' ∧ (∀ y, mIE x s' f' Ms' Mf' vp' y → mIE x s f Ms Mf vp y ∨ w.heap.size ≤ y) ∧ (∀ y, F' y → F y ∨ mIE x s f Ms Mf vp y ∨ w.heap.size ≤ y)
theorem IE.same {w w' : World} {x s f : Nat} {Ms Mf F : Nat → Prop} {c : Nat → Nat} {d : Dk} {vp : Value} {xs : List Value} (h : IE w x s f Ms Mf F c d vp xs) (hc : Ch nob w w') : LfE w x s f Ms Mf F vp d w' :=
  ⟨s, f, Ms, Mf, F, c, vp, xs, h.ch hc, hc.weaken (fun _ _ e => e.elim), fun _ e => .inl e, fun _ e => .inl e⟩
set_option maxRecDepth 100000 in
set_option maxHeartbeats 8000000 in
theorem dom_e (x s f : Nat) (Ms Mf F G : Nat → Prop) (c : Nat → Nat) (d : Dk) (vp : Value) (xs : List Value) (a p : Ac) (va : Value) (w : World) (h : IE w x s f Ms Mf F c d vp xs) (hs : DkSm d) (ha : AcSm a) (hk : 0 ≤ a.k ∧ a.k ≤ 3) (hp0 : p = nrmA a) (hva : Rd w G va (bys p.b)) (hG : ∀ y, G y → y ≠ x) :
    Calls Try.prog 37 #[.pointer (some ⟨x, 0, none⟩), thV p va] w fun e w' => e = .returned (.int .i64 (doF d a).2) ∧ LfE w x s f Ms Mf F vp (doF d a).1 w' := by
  obtain ⟨Aa, ca, rfl⟩ := hva.shape
  have hp : AcSm p := by rw [hp0]; exact nrm_sm ha
  have hkp : p.k = a.k := by rw [hp0]; exact nrm_k a
  have hrf : refF d p = refF d a := by rw [hp0]; exact ref_nrm d a
  have Hp := hid hp0
  clear hp0
  obtain ⟨R, hR⟩ : ∃ R, R = doF d a := ⟨_, rfl⟩
  rw [← hR]
  have HR := hid hR
  clear hR
  unfold thV
  have b0 := Blk.new' w 76 (apL p (.slice Aa p.b.length ca))
  have hB0 : Below w.heap.size w (w.alloc (.cells (apL p (.slice Aa p.b.length ca)).toArray 76)) := (Below.refl _ _).alloc (Nat.le_refl _) _
  obtain ⟨w0, hw0⟩ : ∃ u, u = w.alloc (.cells (apL p (.slice Aa p.b.length ca)).toArray 76) := ⟨_, rfl⟩
  rw [← hw0] at b0 hB0
  have h0 := h.below hB0
  have c5 := h0.hb.cellAt 5 _ rfl
  have H0 := hid h0
  have Hh := hid h
  clear h0
  cases hd : d.down with
  | true =>
    rw [hd] at c5
    have Hdo : Hid (R = (d, 14)) := hid (by rw [HR.out]; exact do_dn hk hd)
    clear hd hkp h
    rw [hw0] at c5
    unfold apL at c5
    go_enter Try.func37, Try.ntmps37
    go_wp2
    go_ret
    rw [Hdo.out]
    exact ⟨by rfl, Hh.out.same (by rw [hw0] at hB0; exact .of_below hB0)⟩
  | false =>
    rw [hd] at c5
    have Hdo : Hid (R = if refF d a = 0 then pushF d a else (d, refF d a)) := hid (by rw [HR.out]; exact do_ref hk hd)
    have Hd := hid hd
    clear hd hkp h
    rw [hw0] at c5
    unfold apL at c5
    have b0' := b0
    rw [hw0] at b0'
    unfold apL at b0'
    go_enter Try.func37, Try.ntmps37
    go_wp2_with (first | (refine wp_ld 76 (.tmp 3) rfl rfl rfl b0'.whole Try.underlying76 rfl sizeTh ?_) | fail)
    change Calls _ _ _ (w.alloc (.cells (apL p (.slice Aa p.b.length ca)).toArray 76)) _
    rw [← hw0]
    clear hw0 c5 b0'
    obtain ⟨g, hg⟩ : ∃ g, g = w.heap.size := ⟨_, rfl⟩
    rw [← hg] at b0 ⊢
    have hgw : w.heap.size ≤ g ∧ g < w0.heap.size := ⟨by omega, b0.lt⟩
    clear hg
    refine (refusal_e x s f vp Mf d p Aa ca _ H0.out.hb H0.out.mf.fms hs hp.nn hp.b).mono ?_
    rintro e w1 ⟨rfl, hB1⟩
    rw [hrf]
    by_cases hr0 : refF d a = 0
    · have Hdo2 : Hid (R = pushF d a) := hid (by rw [Hdo.out, if_pos hr0])
      have Hok : Hid (PdOk a) := hid (ref_ok hk ha hr0)
      rw [hr0]
      have hB1w := hB0.trans (hB1.mono hB0.size)
      have H1 := hid (H0.out.below hB1)
      have b1 := b0.below hB1
      have hva1 := hva.below hB1w
      have hgx : g ≠ x := by have := Hh.out.hb.lt; omega
      have hz1 := hB1w.size
      clear hr0 hrf Hdo b0 hB0 hva H0
      go_wp2_with (fail)
      refine (blows_e x s f vp d _ H1.out.hb hs.f Hd.out).mono ?_
      rintro e w2 ⟨rfl, hb2, hC2⟩
      obtain ⟨B, hBu⟩ : ∃ B, B = (burnF d).1 := ⟨_, rfl⟩
      have hpu := push_dn d a
      have hB2d : B.down = true → B.fuse = 0 := by rw [hBu]; exact burn_down Hh.out.dn
      have H2 : Hid (IE w2 x s f Ms Mf F c B vp xs) := hid (by rw [hBu] at *; exact H1.out.blk hb2 hC2 rfl rfl hB2d)
      have HBn : Hid (nowF { B with pend := d.pend ++ [a] } = doneF (nowF d) a) := hid (by rw [hBu]; exact now_push d a)
      have HBs : Hid (B.syn = d.syn) := hid (by rw [hBu]; rfl)
      have HBp : Hid (B.pend = d.pend) := hid (by rw [hBu]; rfl)
      have HBm : Hid (nowF B = nowF d) := hid (by rw [hBu]; rfl)
      have HBd : Hid (B.down = true → B.fuse = 0) := hid hB2d
      rw [← hBu] at hpu ⊢
      have hC2w : Ch (mIE x s f Ms Mf vp) w w2 := ((Ch.refl _ w).belowR hB1w).trans (hC2.weaken (fun k _ e => .inl e))
      have b2 := b1.ch hC2 hgx
      have hva2 := hva1.ch hC2 (fun y e e2 => hG y e e2)
      have Hpu0 := hid hpu
      clear hBu hpu hB2d hb2 hC2 b1 hva1 H1 hB1 hB1w
      cases hdB : B.down with
      | true =>
        have Hpu : Hid (R = (B, 14)) := hid (by rw [Hdo2.out, Hpu0.out, if_pos hdB])
        clear hdB
        go_wp2
        go_ret
        rw [Hpu.out]
        exact ⟨rfl, s, f, Ms, Mf, F, c, vp, xs, H2.out, hC2w, fun _ e => .inl e, fun _ e => .inl e⟩
      | false =>
        have Hpu : Hid (R = ({ B with pend := d.pend ++ [a] }, 0)) := hid (by rw [Hdo2.out, Hpu0.out, if_neg (by rw [hdB]; simp)])
        clear hdB Hpu0 Hdo2
        go_wp2_with (first | (refine wp_ld 76 (.tmp 3) rfl rfl rfl b2.whole Try.underlying76 rfl sizeTh ?_) | fail)
        have hp24 : p.n.size ≤ 24 ∧ p.t.size ≤ 24 := by rw [Hp.out]; exact ⟨by rw [nrm_n]; exact Hok.out.n, Hok.out.t⟩
        refine (tcopied_e p G _ _ hva2 hp.b hp.nn hp.tt (by omega) (by omega)).mono ?_
        rintro e w3 ⟨v3, rfl, ho3, hB3⟩
        obtain ⟨A3, c3, rfl⟩ := own_shape8 ho3
        obtain ⟨F3, hF3⟩ : ∃ F3 : Nat → Prop, F3 = fun y => w2.heap.size ≤ y ∧ y < w3.heap.size := ⟨_, rfl⟩
        have hF3e : ∀ y, F3 y ↔ w2.heap.size ≤ y ∧ y < w3.heap.size := fun y => by rw [hF3]
        have hz2 := hC2w.size
        have hg2 := b2.lt
        have hr3 : Rd w3 F3 (.slice A3 p.b.length c3) (bys p.b) := Rd.of_own' ho3 (fun y h1 h2 => (hF3e y).2 ⟨h1, h2⟩)
        have b3 := b2.below hB3
        clear hF3 ho3
        go_wp2_with (refine wp_st 76 (.tmp 3) (.tmp 21) rfl rfl rfl (f := 0) rfl (l := apL p (.slice A3 p.b.length c3)) rfl b3 (by simp [apL]) sizeTh (one_ap _ _ _ _) ?_; intro w40 hb40 hG40; refine wp_stop ?_)
        have hb40 : Blk w40 g 76 (apL p (.slice A3 p.b.length c3)) := hb40
        obtain ⟨w4, hw4⟩ : ∃ u, u = w40.drew := ⟨_, rfl⟩
        have hz3 := hB3.size
        have hz40 := hG40.size
        have hzw4 : w4.heap.size = w40.heap.size := by rw [hw4]; rfl
        have hk4 : ∀ y, y < w3.heap.size → y ≠ g → w4.heap[y]? = w3.heap[y]? := fun y hy hn => by rw [hw4]; exact hG40.block y hy (fun e => by injection e with e; exact hn e)
        have hbd := Hh.out.bd
        have hI4 : IE w4 x s f Ms Mf F c B vp xs := (H2.out.below hB3).keep (fun y hy e => hk4 y hy (fun e2 => by have := hbd y e; omega)) (by omega)
        have hv3 : Rd w4 F3 (.slice A3 p.b.length c3) (bys p.b) := hr3.keep (fun y hy e => ⟨e, hk4 y hy (fun e2 => by have := (hF3e y).1 e; omega)⟩)
        have b4 : Blk w4 g 76 (apL p (.slice A3 p.b.length c3)) := by rw [hw4]; exact hb40.drew
        have hC4 : Ch (mIE x s f Ms Mf vp) w w4 := by rw [hw4]; exact ((hC2w.belowR hB3).grow hG40 (fun k hk => .inr (by injection hk with hk; omega))).drew
        have hb := hI4.hb
        have hms : FO Try.prog 9 5 w4 Ms anyN s d.syn := by have := hI4.ms; rw [HBs.out] at this; exact this
        have hmf : FO Try.prog 9 5 w4 Mf anyN f (nowF d) := by have := hI4.mf; rw [HBm.out] at this; exact this
        have ho : w4.ownsRow 0 76 4 vp d.pend.length xs := by have := hI4.ho; rw [HBp.out] at this; exact this
        have hx : WdX w4 F apD (d.pend.map nrmA) xs := by have := hI4.hx; rw [HBp.out] at this; exact this
        have d2 := hb.cellAt 3 _ rfl
        have d2' := (hb.below ((Below.refl _ _).alloc (Nat.le_refl _) (.cells (apL p (.slice A3 p.b.length c3)).toArray 76))).cellAt 3 _ rfl
        have hrg := b4.whole
        have hvl : ∀ y, vp.ownBlock = some y → y < w.heap.size := fun y e => (Hh.out.ho.lt y e).2
        have HF3w : Hid (∀ y, F3 y → w.heap.size ≤ y ∧ y < w4.heap.size) := hid (fun y e => by have := (hF3e y).1 e; omega)
        have hzw : w.heap.size ≤ w4.heap.size := by omega
        have hg4 : g < w4.heap.size := b4.lt
        have hxw : x < w.heap.size := Hh.out.hb.lt
        have hnb := now_bd d.pend d.syn
        have hsn := hs.n
        have hst := hs.t
        have hLn : (nowF d).length < maxLen := by unfold nowF; simp only [maxLen]; omega
        have hfl : ((findF (nowF d) p.n).getD []).length ≤ 1000000000 := by
          have := find_tot (nowF d) p.n
          unfold nowF at this ⊢
          omega
        clear hnb hst hF3e hr3 hb40 hG40 hk4 hbd hI4 hB3 b3 b2 hva2 hC2w H2 hz3 hz40 hzw4 hz2 hg2 hp24
        refine wp_go ?_
        go_upto_region 11 with (fail)
        refine wp_region_noPanic ?_
        refine wp_region_any (by kernel_rfl) ?_
        change wpAny _ _ _ _ _ _ _ (World.drew _)
        rw [← hw4]
        clear hw4
        refine wpAny_take (i := 0) (oi := ⟨some 22, _, _, _, _, none⟩) (v := ?_) rfl (by kernel_rfl) (by kernel_rfl) (by kernel_rfl) (fun _ _ _ h => h) (Or.inl ⟨by rfl, ?_⟩) ?_
        rotate_left
        · intro w; go_simp; try with_reducible rfl
        try simp only [Act.put, List.setIfInBounds_toArray, List.set_cons_zero, List.set_cons_succ]
        refine wpAny_take (i := 1) (oi := ⟨some 23, _, _, _, _, none⟩) (v := ?_) rfl (by kernel_rfl) (by kernel_rfl) (by kernel_rfl) (fun _ _ _ h => h) (Or.inl ⟨by rfl, ?_⟩) ?_
        rotate_left
        · intro w; go_simp; try with_reducible rfl
        try simp only [Act.put, List.setIfInBounds_toArray, List.set_cons_zero, List.set_cons_succ]
        refine wpAny_take (i := 2) (oi := ⟨some 24, _, _, _, _, none⟩) (v := ?_) rfl (by kernel_rfl) (by kernel_rfl) (by kernel_rfl) (fun _ _ _ h => h) (Or.inl ⟨by rfl, ?_⟩) ?_
        rotate_left
        · intro w; go_simp; try with_reducible rfl
        try simp only [Act.put, List.setIfInBounds_toArray, List.set_cons_zero, List.set_cons_succ]
        refine wpAny_take (i := 3) (oi := ⟨some 25, _, _, _, _, none⟩) (v := ?_) rfl (by kernel_rfl) (by kernel_rfl) (by kernel_rfl) (fun _ _ _ h => h) (Or.inl ⟨by rfl, ?_⟩) ?_
        rotate_left
        · intro w; go_simp; try with_reducible rfl
        try simp only [Act.put, List.setIfInBounds_toArray, List.set_cons_zero, List.set_cons_succ]
        refine wpAny_ready (rs := [4, 5]) (by kernel_rfl) (by simp) ?_
        refine AllReady.cons (o := ⟨some 26, .load 62 (.tmp 25), _, _, _, none⟩) rfl (fun K hK => ?_) ?_
        · refine step_ld1 62 (.tmp 25) (by rfl) (by rfl) (by rfl) d2 Try.isAgg62 ?_
          refine hK _ _ ?_
          clear hK K
          try simp only [Act.put, List.setIfInBounds_toArray, List.set_cons_zero, List.set_cons_succ]
          refine wpAny_ready (rs := [5]) (by kernel_rfl) (by simp) ?_
          refine AllReady.cons (o := ⟨some 27, .load 76 (.tmp 3), _, _, _, none⟩) rfl (fun K hK => ?_) AllReady.nil
          refine step_ld 76 (.tmp 3) (by rfl) (by rfl) (by rfl) hrg Try.underlying76 rfl sizeTh ?_
          refine hK _ _ ?_
          clear hK K
          try simp only [Act.put, List.setIfInBounds_toArray, List.set_cons_zero, List.set_cons_succ]
          refine wpAny_ready (rs := [6]) (by kernel_rfl) (by simp) ?_
          refine AllReady.cons (o := ⟨some 28, .buildSlice _ _ _, _, _, _, none⟩) rfl (fun K hK => ?_) AllReady.nil
          refine step_bsW (.tmp 27) slTh (by rfl) (by rfl) (us := apL p (.slice A3 p.b.length c3)) (by rfl) rfl ?_
          refine hK _ _ ?_
          clear hK K
          try simp only [Act.put, List.setIfInBounds_toArray, List.set_cons_zero, List.set_cons_succ]
          refine wpAny_ready (rs := [7]) (by kernel_rfl) (by simp) ?_
          refine AllReady.cons (o := ⟨some 29, .call _, _, _, _, none⟩) rfl (fun K hK => ?_) AllReady.nil
          refine step_appW5 (.tmp 26) (.tmp 28) slTh (by rfl) (by rfl) (us := apL p (.slice A3 p.b.length c3)) rfl (one_ap p _ _ _) (base := 0) (by rfl) ho (by rfl) (by simp only [maxLen]; omega) (by omega) (Nat.zero_le _) ?_
          intro v6 w6 ho6 hG6 hd6
          obtain ⟨A6, c6, rfl⟩ := own_shape8 ho6
          have b6 := hb.keep (hG6.block _ hb.lt (fun e => by have := Hh.out.cv x e.symm; have := Hh.out.cx; omega))
          refine hK _ _ ?_
          clear hK K
          try simp only [Act.put, List.setIfInBounds_toArray, List.set_cons_zero, List.set_cons_succ]
          refine wpAny_take (i := 8) (oi := ⟨some 30, _, _, _, _, none⟩) (v := ?_) rfl (by kernel_rfl) (by kernel_rfl) (by kernel_rfl) (fun _ _ _ h => h) (Or.inl ⟨by rfl, ?_⟩) ?_
          rotate_left
          · intro w; go_simp; try with_reducible rfl
          try simp only [Act.put, List.setIfInBounds_toArray, List.set_cons_zero, List.set_cons_succ]
          refine wpAny_take (i := 9) (oi := ⟨some 31, _, _, _, _, none⟩) (v := ?_) rfl (by kernel_rfl) (by kernel_rfl) (by kernel_rfl) (fun _ _ _ h => h) (Or.inl ⟨by rfl, ?_⟩) ?_
          rotate_left
          · intro w; go_simp; try with_reducible rfl
          try simp only [Act.put, List.setIfInBounds_toArray, List.set_cons_zero, List.set_cons_succ]
          refine wpAny_ready (rs := [10]) (by kernel_rfl) (by simp) ?_
          refine AllReady.cons (o := ⟨none, .store _ _ _, _, _, _, none⟩) rfl (fun K hK => ?_) AllReady.nil
          refine step_st1 62 (.tmp 31) (.tmp 29) (by rfl) (by rfl) (by rfl) (f := 3) (by rfl) (v := .slice A6 (d.pend.length + 1) c6) (by rfl) b6 (by simp [dcZ]) sizeSlTh rfl rfl ?_
          intro w7 b7 hG7
          refine hK _ _ ?_
          clear hK K
          try simp only [Act.put, List.setIfInBounds_toArray, List.set_cons_zero, List.set_cons_succ]
          refine wpAny_done (by kernel_rfl) ?_ _
          refine NoPanic.normal ?_
          have hvq : ∀ y, (Value.slice A6 (d.pend.length + 1) c6).ownBlock = some y → vp.ownBlock = some y ∨ (w4.heap.size ≤ y ∧ y < w6.heap.size) := fun y e => by
            rcases hd6 with h | ⟨q, h, hq⟩
            · exact .inl (h.symm.trans e)
            · rw [h] at e
              injection e with e
              exact .inr ⟨by omega, by have := (ho6.lt y (by rw [h, e])).2; omega⟩
          have hz6 := hG6.size
          have hz7 := hG7.size
          have hk7 : ∀ y, y < w4.heap.size → y ≠ x → vp.ownBlock ≠ some y → w7.heap[y]? = w4.heap[y]? := fun y hy hx2 hn => (hG7.block y (by omega) (by intro e; injection e with e; exact hx2 e)).trans (hG6.block y hy (fun e => hn e.symm))
          have hkc : ∀ y, y < w.heap.size → c y ≠ 0 → c y ≠ 5 → w7.heap[y]? = w4.heap[y]? := fun y hy h0 h5 => hk7 y (by omega) (fun e => h0 (by rw [e]; exact Hh.out.cx)) (fun e => h5 (Hh.out.cv y e))
          replace b7 : Blk w7 x 64 (dcZ { B with pend := d.pend ++ [a] } s f (.slice A6 (d.pend.length + 1) c6)) := b7
          have ho7 := own_keep10 ho6 (fun k hk he => hG7.block k hk (by intro e; injection e with e; rcases hvq k he with h2 | h2; (have := Hh.out.cv k h2; have := Hh.out.cx; rw [← e] at this; omega); omega))
          have hms7 := hms.keep (hkc s Hh.out.ms.lt (by have := Hh.out.cs; omega) (by have := Hh.out.cs; omega)) (fun y _ e => hkc y (Hh.out.cm y e).2 (by have := (Hh.out.cm y e).1; omega) (by have := (Hh.out.cm y e).1; omega))
          have hmf7 := hmf.keep (hkc f Hh.out.mf.lt (by have := Hh.out.cf; omega) (by have := Hh.out.cf; omega)) (fun y _ e => hkc y (Hh.out.cn y e).2 (by have := (Hh.out.cn y e).1; omega) (by have := (Hh.out.cn y e).1; omega))
          have hxF : ∀ y, y < w4.heap.size → F3 y → w7.heap[y]? = w4.heap[y]? := fun y hy e => hk7 y hy (by have := (HF3w.out y e).1; omega) (fun e2 => by have := hvl y e2; have := (HF3w.out y e).1; omega)
          have hx7 := (hx.keep (F' := fun y => F y ∨ F3 y) (fun y hy e => ⟨.inl e, hkc y (Hh.out.cF y e).2 (by have := (Hh.out.cF y e).1; omega) (by have := (Hh.out.cF y e).1; omega)⟩)).snoc (ap_mk (hv3.keep (F' := fun y => F y ∨ F3 y) (fun y hy e => ⟨.inr e, hxF y hy e⟩)))
          have hx7 : WdX w7 (fun y => F y ∨ F3 y) apD ((d.pend ++ [a]).map nrmA) _ := (by rw [List.map_append, List.map_cons, List.map_nil, ← Hp.out]; exact hx7)
          have hv7 := hv3.keep (F' := F3) (fun y hy e => ⟨e, hxF y hy e⟩)
          have b4' := b4.keep (hk7 g hg4 hgx (fun e => by have := hvl g e; omega))
          have hC7 : Ch (mIE x s f Ms Mf vp) w w7 := (hC4.grow hG6 (fun k hk => .inl (.inr (.inr (.inr (.inr (.inr hk))))))).grow hG7 (fun k hk => .inl (.inl (by injection hk with hk; exact hk.symm)))
          obtain ⟨W7, hW7⟩ : ∃ W, W = w7.heap.size := ⟨_, rfl⟩
          have HF3 : Hid (∀ y, F3 y → ¬ Mf y ∧ y ≠ f) := hid fun y e => ⟨fun e2 => by have := (HF3w.out y e).1; have := (Hh.out.cn y e2).2; omega, fun e2 => by have := (HF3w.out y e).1; have := Hh.out.mf.lt; omega⟩
          have HX7 : Hid (FX w7.drew Mf f (nowF d)) := hid ⟨hmf7.keep rfl (fun _ _ _ => rfl), Hh.out.fxf.2.1, fun y e => by show y < w7.heap.size; have := (Hh.out.cn y e).2; omega⟩
          have HV7 : Hid (Rd w7.drew F3 (.slice A3 p.b.length c3) (bys p.b)) := hid hv7.drew
          have HFc : Hid (∀ W, Ch (gX f Mf) w7 W → W.cell? ⟨x, 2, none⟩ = some (.map (some f))) := hid fun W hc => (b7.ch hc (by rintro (e | e); (have := Hh.out.cx; have := Hh.out.cf; rw [e] at *; omega); (have := Hh.out.cx; have := (Hh.out.cn x e).1; omega))).cellAt 2 _ rfl
          have HA : Hid (∀ W, Ch (gX f Mf) w7 W → W.rangeAt g 0 (apL p (.slice A3 p.b.length c3))) := hid fun W hc => (b4'.ch hc (by rintro (e | e); (have := Hh.out.mf.lt; omega); (have := (Hh.out.cn g e).2; omega))).whole
          have H7 := hid (And.intro b7 (And.intro hms7 (And.intro ho7 (And.intro hx7 (And.intro hC7 hvq)))))
          have hzz : w.heap.size ≤ w4.heap.size ∧ w4.heap.size ≤ w6.heap.size ∧ w6.heap.size ≤ W7 ∧ W7 = w7.heap.size := ⟨by omega, hz6, by omega, hW7⟩
          clear b7 hms7 hmf7 ho7 hx7 hC7 hv7 b4' hW7 hz6 hz7 hk7 hkc hxF hvq hb hms hmf ho hx hv3 b4 ho6 hG6 hG7 d2 d2' hd6 hC4 hrg b6
          go_upto_region 12 with (fail)
          refine wp_region_noPanic ?_
          refine wp_region_held_drew (S := Ch (gX f Mf) w7) (by kernel_rfl) ((Ch.refl _ _).drew) (fun hHeld => ?_)
          refine wpAnyH_take (i := 0) (oi := ⟨some 32, _, _, _, _, none⟩) (v := ?_) rfl (by kernel_rfl) (by kernel_rfl) (by kernel_rfl) (fun _ _ _ h => h) (Or.inl ⟨by rfl, ?_⟩) (by assumption) ?_
          rotate_left
          · intro w hSw; go_simp; try with_reducible rfl
          try simp only [Act.put, List.setIfInBounds_toArray, List.set_cons_zero, List.set_cons_succ]
          refine wpAnyH_take (i := 1) (oi := ⟨some 33, _, _, _, _, none⟩) (v := ?_) rfl (by kernel_rfl) (by kernel_rfl) (by kernel_rfl) (fun _ _ _ h => h) (Or.inl ⟨by rfl, ?_⟩) (by assumption) ?_
          rotate_left
          · intro w hSw; go_simp; try with_reducible rfl
          try simp only [Act.put, List.setIfInBounds_toArray, List.set_cons_zero, List.set_cons_succ]
          refine wpAnyH_take (i := 2) (oi := ⟨some 34, _, _, _, _, none⟩) (v := ?_) rfl (by kernel_rfl) (by kernel_rfl) (by kernel_rfl) (fun _ _ _ h => h) (Or.inl ⟨by rfl, ?_⟩) (by assumption) ?_
          rotate_left
          · intro w hSw; go_simp; try with_reducible rfl
          try simp only [Act.put, List.setIfInBounds_toArray, List.set_cons_zero, List.set_cons_succ]
          refine wpAnyH_take (i := 3) (oi := ⟨some 35, _, _, _, _, none⟩) (v := ?_) rfl (by kernel_rfl) (by kernel_rfl) (by kernel_rfl) (fun _ _ _ h => h) (Or.inl ⟨by rfl, ?_⟩) (by assumption) ?_
          rotate_left
          · intro w hSw; have hcw := HFc.out w hSw; go_simp; try with_reducible rfl
          try simp only [Act.put, List.setIfInBounds_toArray, List.set_cons_zero, List.set_cons_succ]
          refine wpAnyH_take (i := 4) (oi := ⟨some 36, .load 76 (.tmp 3), _, _, _, none⟩) (v := _) rfl (by kernel_rfl) (by kernel_rfl) (by kernel_rfl) (fun _ _ _ h => h) (yieldsIf_load_mid (by rfl) 76 (.tmp 3) (by rfl) _ (0) (by rfl) _ _ (fun _ hs => HA.out _ hs) Try.underlying76 rfl (sizeTh)) (by assumption) ?_
          try simp only [Act.put, List.setIfInBounds_toArray, List.set_cons_zero, List.set_cons_succ]
          refine wpAnyH_ready (rs := [5]) (by kernel_rfl) (by simp) ?_
          refine AllReadyH.cons (o := ⟨some 37, _, _, _, _, none⟩) rfl (fun K hK => ?_) AllReadyH.nil
          go_simp
          refine (do_e f (nowF d) Mf F3 p _ _ HX7.out HF3.out HV7.out hLn hp.nn hp.tt hp.b hfl).mono ?_
          rintro e w8 ⟨rfl, ⟨Mf', hX8, hMf'⟩, hC8⟩
          refine hK.out _ _ (hHeld.trans hC8) (fun hHeld => ?_)
          clear hK K
          try simp only [Act.put, List.setIfInBounds_toArray, List.set_cons_zero, List.set_cons_succ]
          refine wpAnyH_done (by kernel_rfl) ?_ _
          refine NoPanic.normal ?_
          have hC8q : Ch (gX f Mf) w7 w8 := hHeld
          obtain ⟨b7, hms7, ho7, hx7, hC7, hvq⟩ := H7.out
          obtain ⟨z1, z2, z3, z4⟩ := hzz
          have hz8 := hC8q.size
          have hk8 : ∀ y, y < w7.heap.size → y ≠ f → ¬ Mf y → w8.heap[y]? = w7.heap[y]? := fun y hy h1 h2 => hC8q.block y hy (by rintro (e | e); exact h1 e; exact h2 e)
          have hMflt : ∀ y, Mf y → y < w.heap.size := fun y e => (Hh.out.cn y e).2
          have hflt := Hh.out.mf.lt
          have hkc8 : ∀ y, y < w.heap.size → c y ≠ 2 → c y ≠ 4 → w8.heap[y]? = w7.heap[y]? := fun y hy h1 h2 => hk8 y (by omega) (fun e => h1 (by rw [e]; exact Hh.out.cf)) (fun e => h2 (Hh.out.cn y e).1)
          have hnew : ∀ y, y < w7.heap.size → w.heap.size ≤ y → w8.heap[y]? = w7.heap[y]? := fun y hy h1 => hk8 y hy (by omega) (fun e => by have := hMflt y e; omega)
          have hpl : ({ B with pend := d.pend ++ [a] } : Dk).pend.length = d.pend.length + 1 := by simp
          have hcc : ∀ y, y < w.heap.size → cN c w.heap.size w4.heap.size W7 y = c y := fun y hy => by unfold cN; rw [if_pos hy]
          have hf8 : FO Try.prog 9 5 w8 Mf' anyN f (nowF { B with pend := d.pend ++ [a] }) := by
            have e1 := hX8.1.perm (doM_perm (nowF d) p)
            rw [show doneF (nowF d) p = doneF (nowF d) a from by rw [Hp.out]; exact done_nrm _ _, ← HBn.out] at e1
            exact e1
          have hI : IE w8 x s f Ms Mf' (fun y => F y ∨ F3 y) (cN c w.heap.size w4.heap.size W7) { B with pend := d.pend ++ [a] } (.slice A6 (d.pend.length + 1) c6) _ := {
            hb := b7.keep (hkc8 x Hh.out.hb.lt (by have := Hh.out.cx; omega) (by have := Hh.out.cx; omega))
            ms := by
              show FO Try.prog 9 5 w8 Ms anyN s B.syn
              rw [HBs.out]
              exact hms7.keep (hkc8 s Hh.out.ms.lt (by have := Hh.out.cs; omega) (by have := Hh.out.cs; omega)) (fun y _ e => hkc8 y (Hh.out.cm y e).2 (by have := (Hh.out.cm y e).1; omega) (by have := (Hh.out.cm y e).1; omega))
            mf := hf8
            ho := by
              rw [hpl]
              exact own_keep10 ho7 (fun y hy e => by
                rcases hvq y e with e2 | e2
                · exact hkc8 y (hvl y e2) (by have := Hh.out.cv y e2; omega) (by have := Hh.out.cv y e2; omega)
                · exact hnew y hy (by omega))
            hx := hx7.keep (fun y hy e => ⟨e, by
              rcases e with e | e
              · exact hkc8 y (Hh.out.cF y e).2 (by have := (Hh.out.cF y e).1; omega) (by have := (Hh.out.cF y e).1; omega)
              · exact hnew y hy (HF3w.out y e).1⟩)
            cx := by rw [hcc x Hh.out.hb.lt]; exact Hh.out.cx
            cs := by rw [hcc s Hh.out.ms.lt]; exact Hh.out.cs
            cf := by rw [hcc f hflt]; exact Hh.out.cf
            cm := fun y e => ⟨by rw [hcc y (Hh.out.cm y e).2]; exact (Hh.out.cm y e).1, by have := (Hh.out.cm y e).2; omega⟩
            cn := fun y e => ⟨by
              rcases hMf' y e with e2 | e2
              · rw [hcc y (hMflt y e2)]; exact (Hh.out.cn y e2).1
              · have e2 : w7.heap.size ≤ y := e2
                unfold cN
                rw [if_neg (by omega), if_neg (by omega), if_neg (by omega)], hX8.2.2 y e⟩
            cv := fun y e => by
              rcases hvq y e with e2 | e2
              · rw [hcc y (hvl y e2)]; exact Hh.out.cv y e2
              · unfold cN
                rw [if_neg (by omega), if_neg (by omega), if_pos (by omega)]
            cF := fun y e => by
              rcases e with e | e
              · exact ⟨by rw [hcc y (Hh.out.cF y e).2]; exact (Hh.out.cF y e).1, by have := (Hh.out.cF y e).2; omega⟩
              · have := HF3w.out y e
                exact ⟨by unfold cN; rw [if_neg (by omega), if_pos (by omega)], by omega⟩
            st := by rw [show ({ B with pend := d.pend ++ [a] } : Dk).syn = d.syn from HBs.out]; exact Hh.out.st
            dn := HBd.out
            nS := by rw [show ({ B with pend := d.pend ++ [a] } : Dk).syn = d.syn from HBs.out]; exact Hh.out.nS
            pd := fun b hb => by
              rcases List.mem_append.1 hb with e | e
              · exact Hh.out.pd b e
              · rw [List.mem_singleton.1 e]; exact Hok.out }
          have hC8w : Ch (mIE x s f Ms Mf vp) w w8 := hC7.trans (hC8q.weaken (fun y _ e => by rcases e with e | e; exact .inr (.inr (.inl e)); exact .inr (.inr (.inr (.inr (.inl e))))))
          have hM8 : ∀ y, mIE x s f Ms Mf' (.slice A6 (d.pend.length + 1) c6) y → mIE x s f Ms Mf vp y ∨ w.heap.size ≤ y := by
            rintro y (e | e | e | e | e | e)
            · exact .inl (.inl e)
            · exact .inl (.inr (.inl e))
            · exact .inl (.inr (.inr (.inl e)))
            · exact .inl (.inr (.inr (.inr (.inl e))))
            · rcases hMf' y e with e2 | e2
              · exact .inl (.inr (.inr (.inr (.inr (.inl e2)))))
              · have e2 : w7.heap.size ≤ y := e2
                exact .inr (by omega)
            · rcases hvq y e with e2 | e2
              · exact .inl (.inr (.inr (.inr (.inr (.inr e2)))))
              · exact .inr (by omega)
          have hF8 : ∀ y, (F y ∨ F3 y) → F y ∨ mIE x s f Ms Mf vp y ∨ w.heap.size ≤ y := by
            rintro y (e | e)
            · exact .inl e
            · exact .inr (.inr (HF3w.out y e).1)
          have HI := hid hI
          have HM8 := hid hM8
          have HF8 := hid hF8
          clear hI hM8 hF8 hX8 hMf' hC8 hC8q hHeld b7 hms7 ho7 hx7 hC7 hvq hk8 hkc8 hnew hcc hf8 HX7 HV7 HFc HA
          go_wp2
          go_ret
          rw [Hpu.out]
          exact ⟨rfl, s, f, Ms, Mf', _, _, _, _, HI.out, hC8w, HM8.out, HF8.out⟩
        refine AllReady.cons (o := ⟨some 27, .load 76 (.tmp 3), _, _, _, none⟩) rfl (fun K hK => ?_) AllReady.nil
        refine step_ld 76 (.tmp 3) (by rfl) (by rfl) (by rfl) hrg Try.underlying76 rfl sizeTh ?_
        refine hK _ _ ?_
        clear hK K
        try simp only [Act.put, List.setIfInBounds_toArray, List.set_cons_zero, List.set_cons_succ]
        refine wpAny_ready (rs := [4, 6]) (by kernel_rfl) (by simp) ?_
        refine AllReady.cons (o := ⟨some 26, .load 62 (.tmp 25), _, _, _, none⟩) rfl (fun K hK => ?_) ?_
        · refine step_ld1 62 (.tmp 25) (by rfl) (by rfl) (by rfl) d2 Try.isAgg62 ?_
          refine hK _ _ ?_
          clear hK K
          try simp only [Act.put, List.setIfInBounds_toArray, List.set_cons_zero, List.set_cons_succ]
          refine wpAny_ready (rs := [6]) (by kernel_rfl) (by simp) ?_
          refine AllReady.cons (o := ⟨some 28, .buildSlice _ _ _, _, _, _, none⟩) rfl (fun K hK => ?_) AllReady.nil
          refine step_bsW (.tmp 27) slTh (by rfl) (by rfl) (us := apL p (.slice A3 p.b.length c3)) (by rfl) rfl ?_
          refine hK _ _ ?_
          clear hK K
          try simp only [Act.put, List.setIfInBounds_toArray, List.set_cons_zero, List.set_cons_succ]
          refine wpAny_ready (rs := [7]) (by kernel_rfl) (by simp) ?_
          refine AllReady.cons (o := ⟨some 29, .call _, _, _, _, none⟩) rfl (fun K hK => ?_) AllReady.nil
          refine step_appW5 (.tmp 26) (.tmp 28) slTh (by rfl) (by rfl) (us := apL p (.slice A3 p.b.length c3)) rfl (one_ap p _ _ _) (base := 0) (by rfl) ho (by rfl) (by simp only [maxLen]; omega) (by omega) (Nat.zero_le _) ?_
          intro v6 w6 ho6 hG6 hd6
          obtain ⟨A6, c6, rfl⟩ := own_shape8 ho6
          have b6 := hb.keep (hG6.block _ hb.lt (fun e => by have := Hh.out.cv x e.symm; have := Hh.out.cx; omega))
          refine hK _ _ ?_
          clear hK K
          try simp only [Act.put, List.setIfInBounds_toArray, List.set_cons_zero, List.set_cons_succ]
          refine wpAny_take (i := 8) (oi := ⟨some 30, _, _, _, _, none⟩) (v := ?_) rfl (by kernel_rfl) (by kernel_rfl) (by kernel_rfl) (fun _ _ _ h => h) (Or.inl ⟨by rfl, ?_⟩) ?_
          rotate_left
          · intro w; go_simp; try with_reducible rfl
          try simp only [Act.put, List.setIfInBounds_toArray, List.set_cons_zero, List.set_cons_succ]
          refine wpAny_take (i := 9) (oi := ⟨some 31, _, _, _, _, none⟩) (v := ?_) rfl (by kernel_rfl) (by kernel_rfl) (by kernel_rfl) (fun _ _ _ h => h) (Or.inl ⟨by rfl, ?_⟩) ?_
          rotate_left
          · intro w; go_simp; try with_reducible rfl
          try simp only [Act.put, List.setIfInBounds_toArray, List.set_cons_zero, List.set_cons_succ]
          refine wpAny_ready (rs := [10]) (by kernel_rfl) (by simp) ?_
          refine AllReady.cons (o := ⟨none, .store _ _ _, _, _, _, none⟩) rfl (fun K hK => ?_) AllReady.nil
          refine step_st1 62 (.tmp 31) (.tmp 29) (by rfl) (by rfl) (by rfl) (f := 3) (by rfl) (v := .slice A6 (d.pend.length + 1) c6) (by rfl) b6 (by simp [dcZ]) sizeSlTh rfl rfl ?_
          intro w7 b7 hG7
          refine hK _ _ ?_
          clear hK K
          try simp only [Act.put, List.setIfInBounds_toArray, List.set_cons_zero, List.set_cons_succ]
          refine wpAny_done (by kernel_rfl) ?_ _
          refine NoPanic.normal ?_
          have hvq : ∀ y, (Value.slice A6 (d.pend.length + 1) c6).ownBlock = some y → vp.ownBlock = some y ∨ (w4.heap.size ≤ y ∧ y < w6.heap.size) := fun y e => by
            rcases hd6 with h | ⟨q, h, hq⟩
            · exact .inl (h.symm.trans e)
            · rw [h] at e
              injection e with e
              exact .inr ⟨by omega, by have := (ho6.lt y (by rw [h, e])).2; omega⟩
          have hz6 := hG6.size
          have hz7 := hG7.size
          have hk7 : ∀ y, y < w4.heap.size → y ≠ x → vp.ownBlock ≠ some y → w7.heap[y]? = w4.heap[y]? := fun y hy hx2 hn => (hG7.block y (by omega) (by intro e; injection e with e; exact hx2 e)).trans (hG6.block y hy (fun e => hn e.symm))
          have hkc : ∀ y, y < w.heap.size → c y ≠ 0 → c y ≠ 5 → w7.heap[y]? = w4.heap[y]? := fun y hy h0 h5 => hk7 y (by omega) (fun e => h0 (by rw [e]; exact Hh.out.cx)) (fun e => h5 (Hh.out.cv y e))
          replace b7 : Blk w7 x 64 (dcZ { B with pend := d.pend ++ [a] } s f (.slice A6 (d.pend.length + 1) c6)) := b7
          have ho7 := own_keep10 ho6 (fun k hk he => hG7.block k hk (by intro e; injection e with e; rcases hvq k he with h2 | h2; (have := Hh.out.cv k h2; have := Hh.out.cx; rw [← e] at this; omega); omega))
          have hms7 := hms.keep (hkc s Hh.out.ms.lt (by have := Hh.out.cs; omega) (by have := Hh.out.cs; omega)) (fun y _ e => hkc y (Hh.out.cm y e).2 (by have := (Hh.out.cm y e).1; omega) (by have := (Hh.out.cm y e).1; omega))
          have hmf7 := hmf.keep (hkc f Hh.out.mf.lt (by have := Hh.out.cf; omega) (by have := Hh.out.cf; omega)) (fun y _ e => hkc y (Hh.out.cn y e).2 (by have := (Hh.out.cn y e).1; omega) (by have := (Hh.out.cn y e).1; omega))
          have hxF : ∀ y, y < w4.heap.size → F3 y → w7.heap[y]? = w4.heap[y]? := fun y hy e => hk7 y hy (by have := (HF3w.out y e).1; omega) (fun e2 => by have := hvl y e2; have := (HF3w.out y e).1; omega)
          have hx7 := (hx.keep (F' := fun y => F y ∨ F3 y) (fun y hy e => ⟨.inl e, hkc y (Hh.out.cF y e).2 (by have := (Hh.out.cF y e).1; omega) (by have := (Hh.out.cF y e).1; omega)⟩)).snoc (ap_mk (hv3.keep (F' := fun y => F y ∨ F3 y) (fun y hy e => ⟨.inr e, hxF y hy e⟩)))
          have hx7 : WdX w7 (fun y => F y ∨ F3 y) apD ((d.pend ++ [a]).map nrmA) _ := (by rw [List.map_append, List.map_cons, List.map_nil, ← Hp.out]; exact hx7)
          have hv7 := hv3.keep (F' := F3) (fun y hy e => ⟨e, hxF y hy e⟩)
          have b4' := b4.keep (hk7 g hg4 hgx (fun e => by have := hvl g e; omega))
          have hC7 : Ch (mIE x s f Ms Mf vp) w w7 := (hC4.grow hG6 (fun k hk => .inl (.inr (.inr (.inr (.inr (.inr hk))))))).grow hG7 (fun k hk => .inl (.inl (by injection hk with hk; exact hk.symm)))
          obtain ⟨W7, hW7⟩ : ∃ W, W = w7.heap.size := ⟨_, rfl⟩
          have HF3 : Hid (∀ y, F3 y → ¬ Mf y ∧ y ≠ f) := hid fun y e => ⟨fun e2 => by have := (HF3w.out y e).1; have := (Hh.out.cn y e2).2; omega, fun e2 => by have := (HF3w.out y e).1; have := Hh.out.mf.lt; omega⟩
          have HX7 : Hid (FX w7.drew Mf f (nowF d)) := hid ⟨hmf7.keep rfl (fun _ _ _ => rfl), Hh.out.fxf.2.1, fun y e => by show y < w7.heap.size; have := (Hh.out.cn y e).2; omega⟩
          have HV7 : Hid (Rd w7.drew F3 (.slice A3 p.b.length c3) (bys p.b)) := hid hv7.drew
          have HFc : Hid (∀ W, Ch (gX f Mf) w7 W → W.cell? ⟨x, 2, none⟩ = some (.map (some f))) := hid fun W hc => (b7.ch hc (by rintro (e | e); (have := Hh.out.cx; have := Hh.out.cf; rw [e] at *; omega); (have := Hh.out.cx; have := (Hh.out.cn x e).1; omega))).cellAt 2 _ rfl
          have HA : Hid (∀ W, Ch (gX f Mf) w7 W → W.rangeAt g 0 (apL p (.slice A3 p.b.length c3))) := hid fun W hc => (b4'.ch hc (by rintro (e | e); (have := Hh.out.mf.lt; omega); (have := (Hh.out.cn g e).2; omega))).whole
          have H7 := hid (And.intro b7 (And.intro hms7 (And.intro ho7 (And.intro hx7 (And.intro hC7 hvq)))))
          have hzz : w.heap.size ≤ w4.heap.size ∧ w4.heap.size ≤ w6.heap.size ∧ w6.heap.size ≤ W7 ∧ W7 = w7.heap.size := ⟨by omega, hz6, by omega, hW7⟩
          clear b7 hms7 hmf7 ho7 hx7 hC7 hv7 b4' hW7 hz6 hz7 hk7 hkc hxF hvq hb hms hmf ho hx hv3 b4 ho6 hG6 hG7 d2 d2' hd6 hC4 hrg b6
          go_upto_region 12 with (fail)
          refine wp_region_noPanic ?_
          refine wp_region_held_drew (S := Ch (gX f Mf) w7) (by kernel_rfl) ((Ch.refl _ _).drew) (fun hHeld => ?_)
          refine wpAnyH_take (i := 0) (oi := ⟨some 32, _, _, _, _, none⟩) (v := ?_) rfl (by kernel_rfl) (by kernel_rfl) (by kernel_rfl) (fun _ _ _ h => h) (Or.inl ⟨by rfl, ?_⟩) (by assumption) ?_
          rotate_left
          · intro w hSw; go_simp; try with_reducible rfl
          try simp only [Act.put, List.setIfInBounds_toArray, List.set_cons_zero, List.set_cons_succ]
          refine wpAnyH_take (i := 1) (oi := ⟨some 33, _, _, _, _, none⟩) (v := ?_) rfl (by kernel_rfl) (by kernel_rfl) (by kernel_rfl) (fun _ _ _ h => h) (Or.inl ⟨by rfl, ?_⟩) (by assumption) ?_
          rotate_left
          · intro w hSw; go_simp; try with_reducible rfl
          try simp only [Act.put, List.setIfInBounds_toArray, List.set_cons_zero, List.set_cons_succ]
          refine wpAnyH_take (i := 2) (oi := ⟨some 34, _, _, _, _, none⟩) (v := ?_) rfl (by kernel_rfl) (by kernel_rfl) (by kernel_rfl) (fun _ _ _ h => h) (Or.inl ⟨by rfl, ?_⟩) (by assumption) ?_
          rotate_left
          · intro w hSw; go_simp; try with_reducible rfl
          try simp only [Act.put, List.setIfInBounds_toArray, List.set_cons_zero, List.set_cons_succ]
          refine wpAnyH_take (i := 3) (oi := ⟨some 35, _, _, _, _, none⟩) (v := ?_) rfl (by kernel_rfl) (by kernel_rfl) (by kernel_rfl) (fun _ _ _ h => h) (Or.inl ⟨by rfl, ?_⟩) (by assumption) ?_
          rotate_left
          · intro w hSw; have hcw := HFc.out w hSw; go_simp; try with_reducible rfl
          try simp only [Act.put, List.setIfInBounds_toArray, List.set_cons_zero, List.set_cons_succ]
          refine wpAnyH_take (i := 4) (oi := ⟨some 36, .load 76 (.tmp 3), _, _, _, none⟩) (v := _) rfl (by kernel_rfl) (by kernel_rfl) (by kernel_rfl) (fun _ _ _ h => h) (yieldsIf_load_mid (by rfl) 76 (.tmp 3) (by rfl) _ (0) (by rfl) _ _ (fun _ hs => HA.out _ hs) Try.underlying76 rfl (sizeTh)) (by assumption) ?_
          try simp only [Act.put, List.setIfInBounds_toArray, List.set_cons_zero, List.set_cons_succ]
          refine wpAnyH_ready (rs := [5]) (by kernel_rfl) (by simp) ?_
          refine AllReadyH.cons (o := ⟨some 37, _, _, _, _, none⟩) rfl (fun K hK => ?_) AllReadyH.nil
          go_simp
          refine (do_e f (nowF d) Mf F3 p _ _ HX7.out HF3.out HV7.out hLn hp.nn hp.tt hp.b hfl).mono ?_
          rintro e w8 ⟨rfl, ⟨Mf', hX8, hMf'⟩, hC8⟩
          refine hK.out _ _ (hHeld.trans hC8) (fun hHeld => ?_)
          clear hK K
          try simp only [Act.put, List.setIfInBounds_toArray, List.set_cons_zero, List.set_cons_succ]
          refine wpAnyH_done (by kernel_rfl) ?_ _
          refine NoPanic.normal ?_
          have hC8q : Ch (gX f Mf) w7 w8 := hHeld
          obtain ⟨b7, hms7, ho7, hx7, hC7, hvq⟩ := H7.out
          obtain ⟨z1, z2, z3, z4⟩ := hzz
          have hz8 := hC8q.size
          have hk8 : ∀ y, y < w7.heap.size → y ≠ f → ¬ Mf y → w8.heap[y]? = w7.heap[y]? := fun y hy h1 h2 => hC8q.block y hy (by rintro (e | e); exact h1 e; exact h2 e)
          have hMflt : ∀ y, Mf y → y < w.heap.size := fun y e => (Hh.out.cn y e).2
          have hflt := Hh.out.mf.lt
          have hkc8 : ∀ y, y < w.heap.size → c y ≠ 2 → c y ≠ 4 → w8.heap[y]? = w7.heap[y]? := fun y hy h1 h2 => hk8 y (by omega) (fun e => h1 (by rw [e]; exact Hh.out.cf)) (fun e => h2 (Hh.out.cn y e).1)
          have hnew : ∀ y, y < w7.heap.size → w.heap.size ≤ y → w8.heap[y]? = w7.heap[y]? := fun y hy h1 => hk8 y hy (by omega) (fun e => by have := hMflt y e; omega)
          have hpl : ({ B with pend := d.pend ++ [a] } : Dk).pend.length = d.pend.length + 1 := by simp
          have hcc : ∀ y, y < w.heap.size → cN c w.heap.size w4.heap.size W7 y = c y := fun y hy => by unfold cN; rw [if_pos hy]
          have hf8 : FO Try.prog 9 5 w8 Mf' anyN f (nowF { B with pend := d.pend ++ [a] }) := by
            have e1 := hX8.1.perm (doM_perm (nowF d) p)
            rw [show doneF (nowF d) p = doneF (nowF d) a from by rw [Hp.out]; exact done_nrm _ _, ← HBn.out] at e1
            exact e1
          have hI : IE w8 x s f Ms Mf' (fun y => F y ∨ F3 y) (cN c w.heap.size w4.heap.size W7) { B with pend := d.pend ++ [a] } (.slice A6 (d.pend.length + 1) c6) _ := {
            hb := b7.keep (hkc8 x Hh.out.hb.lt (by have := Hh.out.cx; omega) (by have := Hh.out.cx; omega))
            ms := by
              show FO Try.prog 9 5 w8 Ms anyN s B.syn
              rw [HBs.out]
              exact hms7.keep (hkc8 s Hh.out.ms.lt (by have := Hh.out.cs; omega) (by have := Hh.out.cs; omega)) (fun y _ e => hkc8 y (Hh.out.cm y e).2 (by have := (Hh.out.cm y e).1; omega) (by have := (Hh.out.cm y e).1; omega))
            mf := hf8
            ho := by
              rw [hpl]
              exact own_keep10 ho7 (fun y hy e => by
                rcases hvq y e with e2 | e2
                · exact hkc8 y (hvl y e2) (by have := Hh.out.cv y e2; omega) (by have := Hh.out.cv y e2; omega)
                · exact hnew y hy (by omega))
            hx := hx7.keep (fun y hy e => ⟨e, by
              rcases e with e | e
              · exact hkc8 y (Hh.out.cF y e).2 (by have := (Hh.out.cF y e).1; omega) (by have := (Hh.out.cF y e).1; omega)
              · exact hnew y hy (HF3w.out y e).1⟩)
            cx := by rw [hcc x Hh.out.hb.lt]; exact Hh.out.cx
            cs := by rw [hcc s Hh.out.ms.lt]; exact Hh.out.cs
            cf := by rw [hcc f hflt]; exact Hh.out.cf
            cm := fun y e => ⟨by rw [hcc y (Hh.out.cm y e).2]; exact (Hh.out.cm y e).1, by have := (Hh.out.cm y e).2; omega⟩
            cn := fun y e => ⟨by
              rcases hMf' y e with e2 | e2
              · rw [hcc y (hMflt y e2)]; exact (Hh.out.cn y e2).1
              · have e2 : w7.heap.size ≤ y := e2
                unfold cN
                rw [if_neg (by omega), if_neg (by omega), if_neg (by omega)], hX8.2.2 y e⟩
            cv := fun y e => by
              rcases hvq y e with e2 | e2
              · rw [hcc y (hvl y e2)]; exact Hh.out.cv y e2
              · unfold cN
                rw [if_neg (by omega), if_neg (by omega), if_pos (by omega)]
            cF := fun y e => by
              rcases e with e | e
              · exact ⟨by rw [hcc y (Hh.out.cF y e).2]; exact (Hh.out.cF y e).1, by have := (Hh.out.cF y e).2; omega⟩
              · have := HF3w.out y e
                exact ⟨by unfold cN; rw [if_neg (by omega), if_pos (by omega)], by omega⟩
            st := by rw [show ({ B with pend := d.pend ++ [a] } : Dk).syn = d.syn from HBs.out]; exact Hh.out.st
            dn := HBd.out
            nS := by rw [show ({ B with pend := d.pend ++ [a] } : Dk).syn = d.syn from HBs.out]; exact Hh.out.nS
            pd := fun b hb => by
              rcases List.mem_append.1 hb with e | e
              · exact Hh.out.pd b e
              · rw [List.mem_singleton.1 e]; exact Hok.out }
          have hC8w : Ch (mIE x s f Ms Mf vp) w w8 := hC7.trans (hC8q.weaken (fun y _ e => by rcases e with e | e; exact .inr (.inr (.inl e)); exact .inr (.inr (.inr (.inr (.inl e))))))
          have hM8 : ∀ y, mIE x s f Ms Mf' (.slice A6 (d.pend.length + 1) c6) y → mIE x s f Ms Mf vp y ∨ w.heap.size ≤ y := by
            rintro y (e | e | e | e | e | e)
            · exact .inl (.inl e)
            · exact .inl (.inr (.inl e))
            · exact .inl (.inr (.inr (.inl e)))
            · exact .inl (.inr (.inr (.inr (.inl e))))
            · rcases hMf' y e with e2 | e2
              · exact .inl (.inr (.inr (.inr (.inr (.inl e2)))))
              · have e2 : w7.heap.size ≤ y := e2
                exact .inr (by omega)
            · rcases hvq y e with e2 | e2
              · exact .inl (.inr (.inr (.inr (.inr (.inr e2)))))
              · exact .inr (by omega)
          have hF8 : ∀ y, (F y ∨ F3 y) → F y ∨ mIE x s f Ms Mf vp y ∨ w.heap.size ≤ y := by
            rintro y (e | e)
            · exact .inl e
            · exact .inr (.inr (HF3w.out y e).1)
          have HI := hid hI
          have HM8 := hid hM8
          have HF8 := hid hF8
          clear hI hM8 hF8 hX8 hMf' hC8 hC8q hHeld b7 hms7 ho7 hx7 hC7 hvq hk8 hkc8 hnew hcc hf8 HX7 HV7 HFc HA
          go_wp2
          go_ret
          rw [Hpu.out]
          exact ⟨rfl, s, f, Ms, Mf', _, _, _, _, HI.out, hC8w, HM8.out, HF8.out⟩
        refine AllReady.cons (o := ⟨some 28, .buildSlice _ _ _, _, _, _, none⟩) rfl (fun K hK => ?_) AllReady.nil
        refine step_bsW (.tmp 27) slTh (by rfl) (by rfl) (us := apL p (.slice A3 p.b.length c3)) (by rfl) rfl ?_
        refine hK _ _ ?_
        clear hK K
        try simp only [Act.put, List.setIfInBounds_toArray, List.set_cons_zero, List.set_cons_succ]
        refine wpAny_ready (rs := [4]) (by kernel_rfl) (by simp) ?_
        refine AllReady.cons (o := ⟨some 26, .load 62 (.tmp 25), _, _, _, none⟩) rfl (fun K hK => ?_) AllReady.nil
        refine step_ld1 62 (.tmp 25) (by rfl) (by rfl) (by rfl) d2' Try.isAgg62 ?_
        refine hK _ _ ?_
        clear hK K
        try simp only [Act.put, List.setIfInBounds_toArray, List.set_cons_zero, List.set_cons_succ]
        refine wpAny_ready (rs := [7]) (by kernel_rfl) (by simp) ?_
        refine AllReady.cons (o := ⟨some 29, .call _, _, _, _, none⟩) rfl (fun K hK => ?_) AllReady.nil
        refine step_appW5 (.tmp 26) (.tmp 28) slTh (by rfl) (by rfl) (us := apL p (.slice A3 p.b.length c3)) rfl (one_ap p _ _ _) (base := 0) (by rfl) ho (by rfl) (by simp only [maxLen]; omega) (by omega) (Nat.zero_le _) ?_
        intro v6 w6 ho6 hG6 hd6
        obtain ⟨A6, c6, rfl⟩ := own_shape8 ho6
        have b6 := hb.keep (hG6.block _ hb.lt (fun e => by have := Hh.out.cv x e.symm; have := Hh.out.cx; omega))
        refine hK _ _ ?_
        clear hK K
        try simp only [Act.put, List.setIfInBounds_toArray, List.set_cons_zero, List.set_cons_succ]
        refine wpAny_take (i := 8) (oi := ⟨some 30, _, _, _, _, none⟩) (v := ?_) rfl (by kernel_rfl) (by kernel_rfl) (by kernel_rfl) (fun _ _ _ h => h) (Or.inl ⟨by rfl, ?_⟩) ?_
        rotate_left
        · intro w; go_simp; try with_reducible rfl
        try simp only [Act.put, List.setIfInBounds_toArray, List.set_cons_zero, List.set_cons_succ]
        refine wpAny_take (i := 9) (oi := ⟨some 31, _, _, _, _, none⟩) (v := ?_) rfl (by kernel_rfl) (by kernel_rfl) (by kernel_rfl) (fun _ _ _ h => h) (Or.inl ⟨by rfl, ?_⟩) ?_
        rotate_left
        · intro w; go_simp; try with_reducible rfl
        try simp only [Act.put, List.setIfInBounds_toArray, List.set_cons_zero, List.set_cons_succ]
        refine wpAny_ready (rs := [10]) (by kernel_rfl) (by simp) ?_
        refine AllReady.cons (o := ⟨none, .store _ _ _, _, _, _, none⟩) rfl (fun K hK => ?_) AllReady.nil
        refine step_st1 62 (.tmp 31) (.tmp 29) (by rfl) (by rfl) (by rfl) (f := 3) (by rfl) (v := .slice A6 (d.pend.length + 1) c6) (by rfl) b6 (by simp [dcZ]) sizeSlTh rfl rfl ?_
        intro w7 b7 hG7
        refine hK _ _ ?_
        clear hK K
        try simp only [Act.put, List.setIfInBounds_toArray, List.set_cons_zero, List.set_cons_succ]
        refine wpAny_done (by kernel_rfl) ?_ _
        refine NoPanic.normal ?_
        have hvq : ∀ y, (Value.slice A6 (d.pend.length + 1) c6).ownBlock = some y → vp.ownBlock = some y ∨ (w4.heap.size ≤ y ∧ y < w6.heap.size) := fun y e => by
          rcases hd6 with h | ⟨q, h, hq⟩
          · exact .inl (h.symm.trans e)
          · rw [h] at e
            injection e with e
            exact .inr ⟨by omega, by have := (ho6.lt y (by rw [h, e])).2; omega⟩
        have hz6 := hG6.size
        have hz7 := hG7.size
        have hk7 : ∀ y, y < w4.heap.size → y ≠ x → vp.ownBlock ≠ some y → w7.heap[y]? = w4.heap[y]? := fun y hy hx2 hn => (hG7.block y (by omega) (by intro e; injection e with e; exact hx2 e)).trans (hG6.block y hy (fun e => hn e.symm))
        have hkc : ∀ y, y < w.heap.size → c y ≠ 0 → c y ≠ 5 → w7.heap[y]? = w4.heap[y]? := fun y hy h0 h5 => hk7 y (by omega) (fun e => h0 (by rw [e]; exact Hh.out.cx)) (fun e => h5 (Hh.out.cv y e))
        replace b7 : Blk w7 x 64 (dcZ { B with pend := d.pend ++ [a] } s f (.slice A6 (d.pend.length + 1) c6)) := b7
        have ho7 := own_keep10 ho6 (fun k hk he => hG7.block k hk (by intro e; injection e with e; rcases hvq k he with h2 | h2; (have := Hh.out.cv k h2; have := Hh.out.cx; rw [← e] at this; omega); omega))
        have hms7 := hms.keep (hkc s Hh.out.ms.lt (by have := Hh.out.cs; omega) (by have := Hh.out.cs; omega)) (fun y _ e => hkc y (Hh.out.cm y e).2 (by have := (Hh.out.cm y e).1; omega) (by have := (Hh.out.cm y e).1; omega))
        have hmf7 := hmf.keep (hkc f Hh.out.mf.lt (by have := Hh.out.cf; omega) (by have := Hh.out.cf; omega)) (fun y _ e => hkc y (Hh.out.cn y e).2 (by have := (Hh.out.cn y e).1; omega) (by have := (Hh.out.cn y e).1; omega))
        have hxF : ∀ y, y < w4.heap.size → F3 y → w7.heap[y]? = w4.heap[y]? := fun y hy e => hk7 y hy (by have := (HF3w.out y e).1; omega) (fun e2 => by have := hvl y e2; have := (HF3w.out y e).1; omega)
        have hx7 := (hx.keep (F' := fun y => F y ∨ F3 y) (fun y hy e => ⟨.inl e, hkc y (Hh.out.cF y e).2 (by have := (Hh.out.cF y e).1; omega) (by have := (Hh.out.cF y e).1; omega)⟩)).snoc (ap_mk (hv3.keep (F' := fun y => F y ∨ F3 y) (fun y hy e => ⟨.inr e, hxF y hy e⟩)))
        have hx7 : WdX w7 (fun y => F y ∨ F3 y) apD ((d.pend ++ [a]).map nrmA) _ := (by rw [List.map_append, List.map_cons, List.map_nil, ← Hp.out]; exact hx7)
        have hv7 := hv3.keep (F' := F3) (fun y hy e => ⟨e, hxF y hy e⟩)
        have b4' := b4.keep (hk7 g hg4 hgx (fun e => by have := hvl g e; omega))
        have hC7 : Ch (mIE x s f Ms Mf vp) w w7 := (hC4.grow hG6 (fun k hk => .inl (.inr (.inr (.inr (.inr (.inr hk))))))).grow hG7 (fun k hk => .inl (.inl (by injection hk with hk; exact hk.symm)))
        obtain ⟨W7, hW7⟩ : ∃ W, W = w7.heap.size := ⟨_, rfl⟩
        have HF3 : Hid (∀ y, F3 y → ¬ Mf y ∧ y ≠ f) := hid fun y e => ⟨fun e2 => by have := (HF3w.out y e).1; have := (Hh.out.cn y e2).2; omega, fun e2 => by have := (HF3w.out y e).1; have := Hh.out.mf.lt; omega⟩
        have HX7 : Hid (FX w7.drew Mf f (nowF d)) := hid ⟨hmf7.keep rfl (fun _ _ _ => rfl), Hh.out.fxf.2.1, fun y e => by show y < w7.heap.size; have := (Hh.out.cn y e).2; omega⟩
        have HV7 : Hid (Rd w7.drew F3 (.slice A3 p.b.length c3) (bys p.b)) := hid hv7.drew
        have HFc : Hid (∀ W, Ch (gX f Mf) w7 W → W.cell? ⟨x, 2, none⟩ = some (.map (some f))) := hid fun W hc => (b7.ch hc (by rintro (e | e); (have := Hh.out.cx; have := Hh.out.cf; rw [e] at *; omega); (have := Hh.out.cx; have := (Hh.out.cn x e).1; omega))).cellAt 2 _ rfl
        have HA : Hid (∀ W, Ch (gX f Mf) w7 W → W.rangeAt g 0 (apL p (.slice A3 p.b.length c3))) := hid fun W hc => (b4'.ch hc (by rintro (e | e); (have := Hh.out.mf.lt; omega); (have := (Hh.out.cn g e).2; omega))).whole
        have H7 := hid (And.intro b7 (And.intro hms7 (And.intro ho7 (And.intro hx7 (And.intro hC7 hvq)))))
        have hzz : w.heap.size ≤ w4.heap.size ∧ w4.heap.size ≤ w6.heap.size ∧ w6.heap.size ≤ W7 ∧ W7 = w7.heap.size := ⟨by omega, hz6, by omega, hW7⟩
        clear b7 hms7 hmf7 ho7 hx7 hC7 hv7 b4' hW7 hz6 hz7 hk7 hkc hxF hvq hb hms hmf ho hx hv3 b4 ho6 hG6 hG7 d2 d2' hd6 hC4 hrg b6
        go_upto_region 12 with (fail)
        refine wp_region_noPanic ?_
        refine wp_region_held_drew (S := Ch (gX f Mf) w7) (by kernel_rfl) ((Ch.refl _ _).drew) (fun hHeld => ?_)
        refine wpAnyH_take (i := 0) (oi := ⟨some 32, _, _, _, _, none⟩) (v := ?_) rfl (by kernel_rfl) (by kernel_rfl) (by kernel_rfl) (fun _ _ _ h => h) (Or.inl ⟨by rfl, ?_⟩) (by assumption) ?_
        rotate_left
        · intro w hSw; go_simp; try with_reducible rfl
        try simp only [Act.put, List.setIfInBounds_toArray, List.set_cons_zero, List.set_cons_succ]
        refine wpAnyH_take (i := 1) (oi := ⟨some 33, _, _, _, _, none⟩) (v := ?_) rfl (by kernel_rfl) (by kernel_rfl) (by kernel_rfl) (fun _ _ _ h => h) (Or.inl ⟨by rfl, ?_⟩) (by assumption) ?_
        rotate_left
        · intro w hSw; go_simp; try with_reducible rfl
        try simp only [Act.put, List.setIfInBounds_toArray, List.set_cons_zero, List.set_cons_succ]
        refine wpAnyH_take (i := 2) (oi := ⟨some 34, _, _, _, _, none⟩) (v := ?_) rfl (by kernel_rfl) (by kernel_rfl) (by kernel_rfl) (fun _ _ _ h => h) (Or.inl ⟨by rfl, ?_⟩) (by assumption) ?_
        rotate_left
        · intro w hSw; go_simp; try with_reducible rfl
        try simp only [Act.put, List.setIfInBounds_toArray, List.set_cons_zero, List.set_cons_succ]
        refine wpAnyH_take (i := 3) (oi := ⟨some 35, _, _, _, _, none⟩) (v := ?_) rfl (by kernel_rfl) (by kernel_rfl) (by kernel_rfl) (fun _ _ _ h => h) (Or.inl ⟨by rfl, ?_⟩) (by assumption) ?_
        rotate_left
        · intro w hSw; have hcw := HFc.out w hSw; go_simp; try with_reducible rfl
        try simp only [Act.put, List.setIfInBounds_toArray, List.set_cons_zero, List.set_cons_succ]
        refine wpAnyH_take (i := 4) (oi := ⟨some 36, .load 76 (.tmp 3), _, _, _, none⟩) (v := _) rfl (by kernel_rfl) (by kernel_rfl) (by kernel_rfl) (fun _ _ _ h => h) (yieldsIf_load_mid (by rfl) 76 (.tmp 3) (by rfl) _ (0) (by rfl) _ _ (fun _ hs => HA.out _ hs) Try.underlying76 rfl (sizeTh)) (by assumption) ?_
        try simp only [Act.put, List.setIfInBounds_toArray, List.set_cons_zero, List.set_cons_succ]
        refine wpAnyH_ready (rs := [5]) (by kernel_rfl) (by simp) ?_
        refine AllReadyH.cons (o := ⟨some 37, _, _, _, _, none⟩) rfl (fun K hK => ?_) AllReadyH.nil
        go_simp
        refine (do_e f (nowF d) Mf F3 p _ _ HX7.out HF3.out HV7.out hLn hp.nn hp.tt hp.b hfl).mono ?_
        rintro e w8 ⟨rfl, ⟨Mf', hX8, hMf'⟩, hC8⟩
        refine hK.out _ _ (hHeld.trans hC8) (fun hHeld => ?_)
        clear hK K
        try simp only [Act.put, List.setIfInBounds_toArray, List.set_cons_zero, List.set_cons_succ]
        refine wpAnyH_done (by kernel_rfl) ?_ _
        refine NoPanic.normal ?_
        have hC8q : Ch (gX f Mf) w7 w8 := hHeld
        obtain ⟨b7, hms7, ho7, hx7, hC7, hvq⟩ := H7.out
        obtain ⟨z1, z2, z3, z4⟩ := hzz
        have hz8 := hC8q.size
        have hk8 : ∀ y, y < w7.heap.size → y ≠ f → ¬ Mf y → w8.heap[y]? = w7.heap[y]? := fun y hy h1 h2 => hC8q.block y hy (by rintro (e | e); exact h1 e; exact h2 e)
        have hMflt : ∀ y, Mf y → y < w.heap.size := fun y e => (Hh.out.cn y e).2
        have hflt := Hh.out.mf.lt
        have hkc8 : ∀ y, y < w.heap.size → c y ≠ 2 → c y ≠ 4 → w8.heap[y]? = w7.heap[y]? := fun y hy h1 h2 => hk8 y (by omega) (fun e => h1 (by rw [e]; exact Hh.out.cf)) (fun e => h2 (Hh.out.cn y e).1)
        have hnew : ∀ y, y < w7.heap.size → w.heap.size ≤ y → w8.heap[y]? = w7.heap[y]? := fun y hy h1 => hk8 y hy (by omega) (fun e => by have := hMflt y e; omega)
        have hpl : ({ B with pend := d.pend ++ [a] } : Dk).pend.length = d.pend.length + 1 := by simp
        have hcc : ∀ y, y < w.heap.size → cN c w.heap.size w4.heap.size W7 y = c y := fun y hy => by unfold cN; rw [if_pos hy]
        have hf8 : FO Try.prog 9 5 w8 Mf' anyN f (nowF { B with pend := d.pend ++ [a] }) := by
          have e1 := hX8.1.perm (doM_perm (nowF d) p)
          rw [show doneF (nowF d) p = doneF (nowF d) a from by rw [Hp.out]; exact done_nrm _ _, ← HBn.out] at e1
          exact e1
        have hI : IE w8 x s f Ms Mf' (fun y => F y ∨ F3 y) (cN c w.heap.size w4.heap.size W7) { B with pend := d.pend ++ [a] } (.slice A6 (d.pend.length + 1) c6) _ := {
          hb := b7.keep (hkc8 x Hh.out.hb.lt (by have := Hh.out.cx; omega) (by have := Hh.out.cx; omega))
          ms := by
            show FO Try.prog 9 5 w8 Ms anyN s B.syn
            rw [HBs.out]
            exact hms7.keep (hkc8 s Hh.out.ms.lt (by have := Hh.out.cs; omega) (by have := Hh.out.cs; omega)) (fun y _ e => hkc8 y (Hh.out.cm y e).2 (by have := (Hh.out.cm y e).1; omega) (by have := (Hh.out.cm y e).1; omega))
          mf := hf8
          ho := by
            rw [hpl]
            exact own_keep10 ho7 (fun y hy e => by
              rcases hvq y e with e2 | e2
              · exact hkc8 y (hvl y e2) (by have := Hh.out.cv y e2; omega) (by have := Hh.out.cv y e2; omega)
              · exact hnew y hy (by omega))
          hx := hx7.keep (fun y hy e => ⟨e, by
            rcases e with e | e
            · exact hkc8 y (Hh.out.cF y e).2 (by have := (Hh.out.cF y e).1; omega) (by have := (Hh.out.cF y e).1; omega)
            · exact hnew y hy (HF3w.out y e).1⟩)
          cx := by rw [hcc x Hh.out.hb.lt]; exact Hh.out.cx
          cs := by rw [hcc s Hh.out.ms.lt]; exact Hh.out.cs
          cf := by rw [hcc f hflt]; exact Hh.out.cf
          cm := fun y e => ⟨by rw [hcc y (Hh.out.cm y e).2]; exact (Hh.out.cm y e).1, by have := (Hh.out.cm y e).2; omega⟩
          cn := fun y e => ⟨by
            rcases hMf' y e with e2 | e2
            · rw [hcc y (hMflt y e2)]; exact (Hh.out.cn y e2).1
            · have e2 : w7.heap.size ≤ y := e2
              unfold cN
              rw [if_neg (by omega), if_neg (by omega), if_neg (by omega)], hX8.2.2 y e⟩
          cv := fun y e => by
            rcases hvq y e with e2 | e2
            · rw [hcc y (hvl y e2)]; exact Hh.out.cv y e2
            · unfold cN
              rw [if_neg (by omega), if_neg (by omega), if_pos (by omega)]
          cF := fun y e => by
            rcases e with e | e
            · exact ⟨by rw [hcc y (Hh.out.cF y e).2]; exact (Hh.out.cF y e).1, by have := (Hh.out.cF y e).2; omega⟩
            · have := HF3w.out y e
              exact ⟨by unfold cN; rw [if_neg (by omega), if_pos (by omega)], by omega⟩
          st := by rw [show ({ B with pend := d.pend ++ [a] } : Dk).syn = d.syn from HBs.out]; exact Hh.out.st
          dn := HBd.out
          nS := by rw [show ({ B with pend := d.pend ++ [a] } : Dk).syn = d.syn from HBs.out]; exact Hh.out.nS
          pd := fun b hb => by
            rcases List.mem_append.1 hb with e | e
            · exact Hh.out.pd b e
            · rw [List.mem_singleton.1 e]; exact Hok.out }
        have hC8w : Ch (mIE x s f Ms Mf vp) w w8 := hC7.trans (hC8q.weaken (fun y _ e => by rcases e with e | e; exact .inr (.inr (.inl e)); exact .inr (.inr (.inr (.inr (.inl e))))))
        have hM8 : ∀ y, mIE x s f Ms Mf' (.slice A6 (d.pend.length + 1) c6) y → mIE x s f Ms Mf vp y ∨ w.heap.size ≤ y := by
          rintro y (e | e | e | e | e | e)
          · exact .inl (.inl e)
          · exact .inl (.inr (.inl e))
          · exact .inl (.inr (.inr (.inl e)))
          · exact .inl (.inr (.inr (.inr (.inl e))))
          · rcases hMf' y e with e2 | e2
            · exact .inl (.inr (.inr (.inr (.inr (.inl e2)))))
            · have e2 : w7.heap.size ≤ y := e2
              exact .inr (by omega)
          · rcases hvq y e with e2 | e2
            · exact .inl (.inr (.inr (.inr (.inr (.inr e2)))))
            · exact .inr (by omega)
        have hF8 : ∀ y, (F y ∨ F3 y) → F y ∨ mIE x s f Ms Mf vp y ∨ w.heap.size ≤ y := by
          rintro y (e | e)
          · exact .inl e
          · exact .inr (.inr (HF3w.out y e).1)
        have HI := hid hI
        have HM8 := hid hM8
        have HF8 := hid hF8
        clear hI hM8 hF8 hX8 hMf' hC8 hC8q hHeld b7 hms7 ho7 hx7 hC7 hvq hk8 hkc8 hnew hcc hf8 HX7 HV7 HFc HA
        go_wp2
        go_ret
        rw [Hpu.out]
        exact ⟨rfl, s, f, Ms, Mf', _, _, _, _, HI.out, hC8w, HM8.out, HF8.out⟩
    · have hrn : (refF d a == 0) = false := beq_eq_false_iff_ne.2 hr0
      have Hdo2 : Hid (R = (d, refF d a)) := hid (by rw [Hdo.out, if_neg hr0])
      obtain ⟨J, hJ⟩ : ∃ J, J = refF d a := ⟨_, rfl⟩
      rw [← hJ] at hrn ⊢
      have HJ := hid hJ
      have hBw := hB0.trans (hB1.mono hB0.size)
      clear hr0 hJ hrf Hdo
      go_wp2
      go_ret
      rw [Hdo2.out]
      exact ⟨by rw [← HJ.out]; rfl, Hh.out.same (.of_below hBw)⟩
end Go.Proofs.Ytjaiffefgjopmaa
