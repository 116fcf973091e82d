/- Cs: layer 17, the document's side: contract of ref09.Open over that of ref08.Get. -/
import Derived.Test.YthbbpfnfnnmdnaaDoorLW
import Derived.Test.YthbbpfnfnnmdnaaDoorCg
import Derived.Test.YthbbpfnfnnmdnaaDoorW0
import Derived.Test.YthbbpfnfnnmdnaaDoorVE
import Derived.Deep.DeepCutAuto
namespace Go.Proofs.YthbbpfnfnnmdnaaDoor
open Go.RowKit Go.V
set_option maxRecDepth 100000 in
set_option maxHeartbeats 4000000 in
theorem ropen9_any (ks : List (List UInt8)) (X : List UInt8) (uk ur v : Value) (F G : Nat → Prop) (w : World) (hks : KsSm ks) (hk : Rd w F uk (tx ks)) (hv : Rd w G v (bys X)) (hX : X.length ≤ 1000000) :
    Calls Tryd.prog 59 #[.agg #[uk, ur], v] w (RdP w (opR ks X)) := by
  have hbl := bldG8
  obtain ⟨AK, ck, rfl, hck, hckm⟩ := hk.slShape
  obtain ⟨A, c, rfl⟩ := hv.shape
  have hkb := Blk.new' w 33 [.slice AK ks.length ck, ur]
  have hBk : Below w.heap.size w (w.alloc (.cells #[.slice AK ks.length ck, ur] 33)) := (Below.refl _ _).alloc (Nat.le_refl _) _
  have hz := Blk.new' (w.alloc (.cells #[.slice AK ks.length ck, ur] 33)) 96 (gM zM 0)
  have hBz : Below (w.alloc (.cells #[.slice AK ks.length ck, ur] 33)).heap.size (w.alloc (.cells #[.slice AK ks.length ck, ur] 33)) ((w.alloc (.cells #[.slice AK ks.length ck, ur] 33)).alloc (.cells (gM zM 0).toArray 96)) := (Below.refl _ _).alloc (Nat.le_refl _) _
  have hkb := hkb.below hBz
  have hB := hBk.trans (hBz.mono hBk.size)
  have hgs : (w.alloc (.cells #[.slice AK ks.length ck, ur] 33)).heap.size = w.heap.size + 1 := by simp
  rw [hgs] at hz
  have hk := hk.below hB
  have hv := hv.below hB
  clear hBk hBz hgs
  obtain ⟨r, hr⟩ : ∃ r, r = opR ks X := ⟨_, rfl⟩
  rw [← hr]
  have hOP : 32 ≤ X.length → r = match getR (X.take (X.length - 32)) with
    | .error e => .error e
    | .ok m => if (ks.length : Int) ≤ m.f then .error 6 else if tagF (keyOf ks m) (X.take (X.length - 32)) = X.drop (X.length - 32) then .ok m else .error 5 := fun h => by rw [hr, opR_getR h]; cases getR (X.take (X.length - 32)) <;> rfl
  have hOS : X.length < 32 → r = .error 1 := fun h => by rw [hr]; unfold opR; rw [if_pos h]
  have HOP := hid hOP
  have HOS := hid hOS
  have hlz := hid (len_gM len_zM 0)
  have hlz1 := hid (len_gM len_zM)
  have hoz := hid (one_gM one_zM8)
  clear hr hOP hOS
  go_enter Tryd.func59, Tryd.ntmps59
  go_wp2_with (refine wp_new 96 rfl rfl zeroG8 ?_; refine wp_stop ?_)
  obtain ⟨w0, hw0⟩ : ∃ x, x = (w.alloc (.cells #[.slice AK ks.length ck, ur] 33)).alloc (.cells (gM zM 0).toArray 96) := ⟨_, rfl⟩
  rw [← hw0] at hz hkb hB hk hv ⊢
  clear hw0
  obtain ⟨gk, hgk⟩ : ∃ g, g = w.heap.size := ⟨_, rfl⟩
  rw [← hgk] at hkb hz ⊢
  obtain ⟨g4, hg4⟩ : ∃ g, g = gk + 1 := ⟨_, rfl⟩
  rw [← hg4] at hz ⊢
  have hgw : w.heap.size ≤ g4 := by omega
  clear hgk hg4
  have hzl := hz.lt
  have HERR : Hid (∀ (k : Nat) (W : World), r = .error k → Below w.heap.size w W → RdP w r (.returned (.agg (gM zM k).toArray)) W) := hid (fun k W h hb => by rw [h]; exact ⟨rfl, hb⟩)
  refine wp_go ?_
  by_cases h32 : X.length < 32
  · have hI : ((X.length : Int)) < 32 := by omega
    have HO := hid (HOS.out h32)
    have hb1 := hbl 1
    have ho1 := hid (hoz.out 1)
    have hl1 := hid (hlz1.out 1)
    have HE := hid (HERR.out 1 · HO.out)
    obtain ⟨l1, hle⟩ : ∃ l, l = gM zM 1 := ⟨_, rfl⟩
    rw [← hle] at hb1 ho1 hl1 HE
    clear h32 hle hbl hoz hlz1 HERR HO
    go_wp2_with (first | refine wp_bld 96 [(1, .const (.int .i64 1))] rfl rfl [(1, .int .i64 1)] rfl hb1 ?_ | refine wp_st 96 (.tmp 4) (.tmp 11) rfl rfl rfl (f := 0) rfl (l := l1) rfl hz (by rw [hlz.out, hl1.out]; omega) (by rw [hl1.out]; exact sizeG8) ho1.out ?_; intro w3 hz3 hG3; refine wp_stop ?_)
    rw [set_all _ _ (by rw [hlz.out, hl1.out])] at hz3
    refine wp_go ?_
    go_wp2
    refine ret_cell rfl rfl hz3.whole Tryd.underlying96 rfl (by rw [hl1.out]; exact sizeG8) rfl ?_
    exact HE.out _ (hB.grown hG3 hB.size (fun k hk => by injection hk with hk; omega))
  obtain ⟨n, hn⟩ : ∃ n, X.length = n + 32 := ⟨X.length - 32, by omega⟩
  have hI : ¬ (((n + 32 : Nat) : Int) < 32) := by omega
  have hI2 : ¬ ((n : Int) < 0) := by omega
  have hI3 : ¬ ((n : Int) + 32 < 32) := by omega
  have hwr : IntKind.i64.wrap (n : Int) = (n : Int) := IntWalk.i64_in _ (by omega)
  have hO := HOP.out (by omega)
  rw [show X.length - 32 = n from by omega] at hO
  obtain ⟨A1, m1, c1, hc1, hY⟩ := Rd.cut_h slB hv (n : Int) (by omega) (by omega)
  obtain ⟨A2, m2, c2, hc2, hD⟩ := Rd.cut_l slB hv (n : Int) (by omega) (by omega)
  rw [Int.toNat_natCast] at hY hD
  have hYl : (X.take n).length = n := by rw [List.length_take]; omega
  have hDl : (X.drop n).length = 32 := by rw [List.length_drop]; omega
  obtain ⟨Y, hYe⟩ : ∃ Y, Y = X.take n := ⟨_, rfl⟩
  obtain ⟨D, hDe⟩ : ∃ D, D = X.drop n := ⟨_, rfl⟩
  rw [← hYe] at hO hY hYl
  rw [← hDe] at hO hD hDl
  rw [hn] at hc1 hc2 ⊢
  have HO := hid hO
  have hYn : Y.length ≤ 1000000 := by omega
  have Hget := hid (rget8_any _ Y _ w0 hY hYn)
  clear h32 hO hYe hDe HOP HOS hDl hYl hn hX
  cases hrm : getR Y with
  | error k =>
    have HW : Hid (∀ e w', RdP w0 (getR Y) e w' → e = .returned (.agg (gM zM k).toArray) ∧ Below w0.heap.size w0 w') := fun e w' h => by
      rw [hrm] at h; exact h
    have hk0 : k ≠ 0 := by
      intro h0; subst h0
      exact getR_nz hrm rfl
    have hne : ((k : Int) != 0) = true := by rw [bne_iff_ne]; omega
    have HR : r = .error k := by rw [HO.out, hrm]
    have ho1 := hid (hoz.out k)
    have hl1 := hid (hlz1.out k)
    have Hf := hid (gM_err len_zM k)
    have HE := hid (HERR.out k · HR)
    obtain ⟨l1, hle⟩ : ∃ l, l = gM zM k := ⟨_, rfl⟩
    rw [← hle] at ho1 hl1 HE HW Hf
    clear hrm HO hle hbl hoz hlz1 HERR HR
    go_wp2_with (fail)
    refine Hget.out.mono ?_
    rintro e w2 h2
    obtain ⟨rfl, hB2⟩ := HW.out _ _ h2
    have hz := hz.below hB2
    have hB := hB.trans (hB2.mono hB.size)
    clear h2 HW Hget hB2
    go_wp2_with (refine wp_newst 96 6 (.tmp 18) rfl rfl rfl rfl rfl rfl zeroG8 (l := l1) rfl (by rw [hl1.out]; exact hlz.out) (by rw [hl1.out]; exact sizeG8) ho1.out (by simp) ?_; intro w3 hx3 hB3 hs3; refine wp_stop ?_)
    have hz := hz.below hB3
    have hB := hB.trans (hB3.mono hB.size)
    obtain ⟨g6, hg6⟩ : ∃ g, g = w2.heap.size := ⟨_, rfl⟩
    rw [← hg6] at hx3 ⊢
    clear hB3 hs3 hg6
    have c39 := hx3.cellAt 39 _ Hf.out
    refine wp_go ?_
    go_wp2_with (first | refine wp_ld 96 (.tmp 6) rfl rfl rfl hx3.whole Tryd.underlying96 rfl (by rw [hl1.out]; exact sizeG8) ?_ | refine wp_st 96 (.tmp 4) (.tmp 22) rfl rfl rfl (f := 0) rfl (l := l1) rfl hz (by rw [hlz.out, hl1.out]; omega) (by rw [hl1.out]; exact sizeG8) ho1.out ?_; intro w4 hz4 hG4; refine wp_stop ?_)
    rw [set_all _ _ (by rw [hlz.out, hl1.out])] at hz4
    refine wp_go ?_
    go_wp2
    refine ret_cell rfl rfl hz4.whole Tryd.underlying96 rfl (by rw [hl1.out]; exact sizeG8) rfl ?_
    exact HE.out _ (hB.grown hG4 hB.size (fun k hk => by injection hk with hk; omega))
  | ok m =>
    obtain ⟨hmh, hnu⟩ := getR_ok hrm
    obtain ⟨hf0, hf15⟩ := errS_num hnu
    obtain ⟨q, hq⟩ : ∃ q : Nat, m.f = (q : Int) := ⟨m.f.toNat, by omega⟩
    have hq15 : q ≤ 15 := by omega
    have HW : Hid (∀ e w', RdP w0 (getR Y) e w' → (∃ ub up, e = .returned (.agg (gM (m.l ub up) 0).toArray) ∧ Rd w' (fun b => w0.heap.size ≤ b) ub (bys m.b) ∧ Rd w' (fun b => w0.heap.size ≤ b) up (tx m.ps)) ∧ Below w0.heap.size w0 w') := fun e w' h => by
      rw [hrm] at h; exact h
    have hR : r = if (ks.length : Int) ≤ m.f then .error 6 else if tagF (keyOf ks m) Y = D then .ok m else .error 5 := by rw [HO.out, hrm]
    rw [hq] at hR
    have hky := hid (fun h => key_at (ks := ks) hq h)
    have hkl := hid (hks.key m)
    have HR0 := hid hR
    clear hR hrm HO hnu hf0 hf15
    go_wp2_with (fail)
    refine Hget.out.mono ?_
    rintro e w2 h2
    obtain ⟨⟨ub, up, rfl, hub, hup⟩, hB2⟩ := HW.out _ _ h2
    obtain ⟨AB, cb, rfl⟩ := hub.shape
    obtain ⟨AP, cpp, rfl, _, _⟩ := hup.slShape
    have hl39 := len_mg hmh (.slice AB m.b.length cb) (.slice AP m.ps.length cpp)
    have hll := hid (len_gM hl39 0)
    have hl1 := hid (one_gM (mg_one m AB AP m.b.length cb m.ps.length cpp) 0)
    have h1c : Hid ((gM (m.l (.slice AB m.b.length cb) (.slice AP m.ps.length cpp)) 0)[1]? = some (.int .i64 (q : Int))) := hid (by rw [gM_get hl39 0 1 (by omega), ← hq]; rfl)
    have h39 := hid (gM_err hl39 0)
    have hfin := hid (fun W (hr : r = .ok m) (h1 : Rd W (fun b => w.heap.size ≤ b) (.slice AB m.b.length cb) (bys m.b)) (h2 : Rd W (fun b => w.heap.size ≤ b) (.slice AP m.ps.length cpp) (tx m.ps)) (h3 : Below w.heap.size w W) => (show RdP w r (.returned (.agg (gM (m.l (.slice AB m.b.length cb) (.slice AP m.ps.length cpp)) 0).toArray)) W by rw [hr]; exact ⟨⟨_, _, rfl, h1, h2⟩, h3⟩))
    obtain ⟨l, hl⟩ : ∃ l, l = gM (m.l (.slice AB m.b.length cb) (.slice AP m.ps.length cpp)) 0 := ⟨_, rfl⟩
    rw [← hl] at hll hl1 h1c h39 hfin ⊢
    have hs0 := hB.size
    have hz := hz.below hB2
    have hkb := hkb.below hB2
    have hk := hk.below hB2
    have hY := hY.below hB2
    have hD := hD.below hB2
    have hB := hB.trans (hB2.mono hB.size)
    have hub := hub.weak (F' := fun b => w.heap.size ≤ b ∧ b ≠ g4) (fun b _ h => by have h' : w0.heap.size ≤ b := h; exact ⟨by omega, by omega⟩)
    have hup := hup.weak (F' := fun b => w.heap.size ≤ b ∧ b ≠ g4) (fun b _ h => by have h' : w0.heap.size ≤ b := h; exact ⟨by omega, by omega⟩)
    clear h2 HW Hget hl hl39 hB2 hmh
    have hg7 := hz.lt
    go_wp2_with (refine wp_newst 96 6 (.tmp 18) rfl rfl rfl rfl rfl rfl zeroG8 (l := l) rfl (by rw [hll.out]; exact hlz.out) (by rw [hll.out]; exact sizeG8) hl1.out (by simp) ?_; intro wq hx hB3 hs3; refine wp_stop ?_)
    have hz := hz.below hB3
    have hkb := hkb.below hB3
    have hk := hk.below hB3
    have hY := hY.below hB3
    have hD := hD.below hB3
    have hub := hub.below hB3
    have hup := hup.below hB3
    have hB := hB.trans (hB3.mono hB.size)
    obtain ⟨g6, hg6⟩ : ∃ g, g = w2.heap.size := ⟨_, rfl⟩
    rw [← hg6] at hx hg7 ⊢
    clear hB3 hs3 hg6
    have c1x := hx.cellAt 1 _ h1c.out
    have c39 := hx.cellAt 39 _ h39.out
    have ck0 := hkb.cellAt 0 _ rfl
    clear hq
    refine wp_go ?_
    have hR := HR0.out
    clear HR0
    by_cases hf : q < ks.length
    · have hkl := hkl.out
      have hfI : ¬ (ks.length : Int) ≤ (q : Int) := by omega
      have hfI2 : (q : Int) < (ks.length : Int) := by omega
      have hfN : ¬ ks.length ≤ q := by omega
      rw [if_neg hfI] at hR
      have hkat := hky.out hf
      obtain ⟨G', off, u, rfl, hG, hcu, hu⟩ := Rd.elem hk q (bys (keyOf ks m)) (by rw [List.getElem?_map, hkat]; rfl)
      obtain ⟨key, hkey⟩ : ∃ key, key = keyOf ks m := ⟨_, rfl⟩
      rw [← hkey] at hu hkl hR
      obtain ⟨A2', c2', rfl⟩ := hu.shape
      have htl := len_tag key Y
      obtain ⟨T, hT⟩ : ∃ T, T = tagF key Y := ⟨_, rfl⟩
      have HT := hid hT
      rw [← hT] at htl hR
      have Htl := hid htl
      obtain ⟨bt, hbt⟩ : ∃ b, b = decide (T = D) := ⟨_, rfl⟩
      have HBT := hid hbt
      have HR : Hid (r = if bt = true then .ok m else .error 5) := hid (by rw [hR, hbt]; simp only [decide_eq_true_eq])
      have HC0 : Hid (∀ W, Ch nob wq W → W.cell? ⟨gk, 0, none⟩ = some (.slice (some ⟨G', off, none⟩) ks.length ck)) := fun W h => (hkb.ch h (fun h => h)).cellAt 0 _ rfl
      have HF : Hid (∀ W, Ch nob wq W → W.cell? ⟨g6, 1, none⟩ = some (.int .i64 (q : Int))) := fun W h => (hx.ch h (fun h => h)).cellAt 1 _ h1c.out
      have HCU := hid (fun W (h : Ch nob wq W) => (h.below.cell (lt_of_cell hcu)).trans hcu)
      have HY : Hid (∀ W, Ch nob wq W → Rd W G (.slice A1 m1 c1) (bys Y)) := fun W h => hY.ext h
      have HU := hid (fun W (h : Ch nob wq W) => hu.ext h)
      clear hkat hkey hky hT htl hbt hR
      go_wp2_with (with_reducible refine wp_at 28 rfl ?_)
      refine wp_on ?_
      go_upto_region 9 with (fail)
      go_cut [7] (fun s7 wx => ∃ g, s7 = .pointer (some ⟨g, 0, none⟩) ∧ Blk wx g 41 (bvs T) ∧ wq.heap.size ≤ g ∧ Below wq.heap.size wq wx)
      case first =>
        refine wp_region_noPanic ?_
        refine wp_region_held_drew (S := Ch nob wq) (by kernel_rfl) ((Ch.refl _ _).drew) (fun hHeld => ?_)
        refine tkP 0 rfl ?_
        refine tkF 1 rfl HC0.out ?_
        refine tkP 2 rfl ?_
        refine tkP 3 rfl ?_
        refine tkF 4 rfl HF.out ?_
        refine tkP 5 rfl ?_
        refine tkF 6 rfl HCU.out ?_
        refine tkP 7 rfl ?_
        refine tkP 8 rfl ?_
        refine tkP 9 rfl ?_
        refine wpAnyH_ready (rs := [10, 11]) (by kernel_rfl) (by simp) ?_
        refine AllReadyH.cons (o := ⟨some 41, _, _, _, _, none⟩) rfl (fun K hK => ?_) ?_
        · go_simp
          refine (rtag_any _ _ key Y _ _ _ (HU.out _ hHeld) (HY.out _ hHeld) (by omega) (by omega)).mono ?_
          rintro e' w6 ⟨rfl, hB6⟩
          rw [← HT.out]
          refine hK.out _ _ (hHeld.belowG hB6) (fun hHeld => ?_)
          clear hK K
          try simp only [nP]
          refine rdH 11 rfl (fun K hK => ?_)
          refine step_new 41 (by rfl) (by rfl) zero25 ?_
          intro g9 w9 hg9 hgl9 hz9 hB9
          have hg9 : wq.heap.size ≤ g9 := Nat.le_trans hHeld.size hg9
          refine hK.out _ _ (hHeld.belowG hB9) (fun hHeld => ?_)
          clear hK K
          try simp only [nP]
          refine rdH 12 rfl (fun K hK => ?_)
          refine step_st 41 (.tmp 7) (.tmp 41) (by rfl) (by rfl) (by rfl) (f := 0) (by rfl) (l := bvs T) (by rfl) hz9 (by simp [zs8, len_bvs, Htl.out]) (by rw [len_bvs, Htl.out]; exact size25) (oneCell_bvs _) ?_
          intro w11 hz11 hG11
          rw [set25 _ Htl.out] at hz11
          refine hK.out _ _ (hHeld.grow hG11 (fun k hk => .inr (by injection hk with hk; omega))) (fun hHeld => ?_)
          clear hK K
          try simp only [nP]
          refine wpAnyH_done (by kernel_rfl) ?_ _
          refine NoPanic.normal ?_
          go_wp2
          go_meet
          exact ⟨g9, rfl, hz11, hg9, hHeld.below⟩
        refine AllReadyH.cons (o := ⟨some 7, .alloc _, _, _, _, none⟩) rfl (fun K hK => ?_) AllReadyH.nil
        refine step_new 41 (by rfl) (by rfl) zero25 ?_
        intro g9 w9 hg9 hgl9 hz9 hB9
        have hg9 : wq.heap.size ≤ g9 := Nat.le_trans hHeld.size hg9
        refine hK.out _ _ (hHeld.belowG hB9) (fun hHeld => ?_)
        clear hK K
        try simp only [nP]
        refine rdH 10 rfl (fun K hK => ?_)
        go_simp
        refine (rtag_any _ _ key Y _ _ _ (HU.out _ hHeld) (HY.out _ hHeld) (by omega) (by omega)).mono ?_
        rintro e' w6 ⟨rfl, hB6⟩
        rw [← HT.out]
        have hz9 := hz9.below hB6
        refine hK.out _ _ (hHeld.belowG hB6) (fun hHeld => ?_)
        clear hK K
        try simp only [nP]
        refine rdH 12 rfl (fun K hK => ?_)
        refine step_st 41 (.tmp 7) (.tmp 41) (by rfl) (by rfl) (by rfl) (f := 0) (by rfl) (l := bvs T) (by rfl) hz9 (by simp [zs8, len_bvs, Htl.out]) (by rw [len_bvs, Htl.out]; exact size25) (oneCell_bvs _) ?_
        intro w11 hz11 hG11
        rw [set25 _ Htl.out] at hz11
        refine hK.out _ _ (hHeld.grow hG11 (fun k hk => .inr (by injection hk with hk; omega))) (fun hHeld => ?_)
        clear hK K
        try simp only [nP]
        refine wpAnyH_done (by kernel_rfl) ?_ _
        refine NoPanic.normal ?_
        go_wp2
        go_meet
        exact ⟨g9, rfl, hz11, hg9, hHeld.below⟩
      case rest =>
        obtain ⟨g9, rfl, hz9, hg9, hB2⟩ := hcut
        have hz := hz.below hB2
        have hx := hx.below hB2
        have hD := hD.below hB2
        have hub := hub.below hB2
        have hup := hup.below hB2
        have hB := hB.trans (hB2.mono hB.size)
        clear HC0 HF HCU HY HU HT hB2 hk hY c1x c39 ck0 hcu hu hkb
        have HZ : Hid (∀ W, Ch nob wc W → W.rangeAt g9 0 (bvs T)) := fun W h => (hz9.ch h (fun h => h)).whole
        have HD := hid (fun W (h : Ch nob wc W) => hD.ext h)
        go_upto_region 10 with (fail)
        refine wp_region_noPanic ?_
        refine wp_region_held_drew (S := Ch nob wc) (by kernel_rfl) ((Ch.refl _ _).drew) (fun hHeld => ?_)
        refine tkY 0 rfl (yieldsIf_load_mid (by rfl) 41 (.tmp 7) (by rfl) _ (0) (by rfl) _ _ (fun _ hs => HZ.out _ hs) und25 rfl ((by rw [len_bvs, Htl.out]; exact size25))) ?_
        refine tkP 2 rfl ?_
        refine tkP 3 rfl ?_
        refine tkP 4 rfl ?_
        refine rdH 1 rfl (fun K hK => ?_)
        go_simp
        refine (rbytes_any T _ Htl.out).mono ?_
        rintro e' w12 ⟨v4, rfl, ho4, hB12⟩
        have hr4 := Rd.of_own ho4
        obtain ⟨A4, c4, rfl⟩ := hr4.shape
        refine hK.out _ _ (hHeld.belowG hB12) (fun hHeld => ?_)
        clear hK K
        try simp only [nP]
        refine rdH 5 rfl (fun K hK => ?_)
        go_simp
        refine (same_b _ _ T D _ _ _ hr4 (HD.out _ hHeld)).mono ?_
        rintro e' w13 ⟨rfl, hB13⟩
        rw [← HBT.out]
        refine hK.out _ _ (hHeld.belowG hB13) (fun hHeld => ?_)
        clear hK K
        try simp only [nP]
        refine tkP 6 rfl ?_
        refine wpAnyH_done (by kernel_rfl) ?_ _
        refine NoPanic.normal ?_
        have hz := hz.ch hHeld (fun e => e)
        have hx := hx.ch hHeld (fun e => e)
        have hub := hub.ext hHeld
        have hup := hup.ext hHeld
        have hB := hB.trans (hHeld.below.mono hB.size)
        clear HZ HD hHeld hr4 ho4 hB12 hB13 hz9 hD HBT
        cases bt with
        | true =>
          have HR2 : r = .ok m := by rw [HR.out]; rfl
          have hfin := hid (fun W => hfin.out W HR2)
          clear HR HERR HR2
          go_wp2_with (first | refine wp_ld 96 (.tmp 6) rfl rfl rfl hx.whole Tryd.underlying96 rfl (by rw [hll.out]; exact sizeG8) ?_ | refine wp_st 96 (.tmp 4) (.tmp 50) rfl rfl rfl (f := 0) rfl (l := l) rfl hz (by rw [hlz.out, hll.out]; omega) (by rw [hll.out]; exact sizeG8) hl1.out ?_; intro w7 hz7 hG7; refine wp_stop ?_)
          rw [set_all _ _ (by rw [hlz.out, hll.out])] at hz7
          have hub := hub.keep (F' := fun b => w.heap.size ≤ b) (fun b hb hF => ⟨hF.1, hG7.block b hb (by intro h; injection h with h; exact hF.2 h)⟩)
          have hup := hup.keep (F' := fun b => w.heap.size ≤ b) (fun b hb hF => ⟨hF.1, hG7.block b hb (by intro h; injection h with h; exact hF.2 h)⟩)
          have hB := hB.grown hG7 hB.size (fun k hk => by injection hk with hk; omega)
          refine wp_go ?_
          go_wp2
          refine ret_cell rfl rfl hz7.whole Tryd.underlying96 rfl (by rw [hll.out]; exact sizeG8) rfl ?_
          exact hfin.out _ hub hup hB
        | false =>
          have HR2 : r = .error 5 := by rw [HR.out]; rfl
          have hb1 := hbl 5
          have ho1 := hid (hoz.out 5)
          have hq1 := hid (hlz1.out 5)
          have HE := hid (HERR.out 5 · HR2)
          obtain ⟨l1, hle⟩ : ∃ l, l = gM zM 5 := ⟨_, rfl⟩
          rw [← hle] at hb1 ho1 hq1 HE
          clear hle hbl hoz hlz1 HERR HR HR2 hfin hub hup
          go_wp2_with (first | refine wp_bld 96 [(1, .const (.int .i64 5))] rfl rfl [(1, .int .i64 5)] rfl hb1 ?_ | refine wp_st 96 (.tmp 4) (.tmp 49) rfl rfl rfl (f := 0) rfl (l := l1) rfl hz (by rw [hlz.out, hq1.out]; omega) (by rw [hq1.out]; exact sizeG8) ho1.out ?_; intro w4 hz4 hG4; refine wp_stop ?_)
          rw [set_all _ _ (by rw [hlz.out, hq1.out])] at hz4
          refine wp_go ?_
          go_wp2
          refine ret_cell rfl rfl hz4.whole Tryd.underlying96 rfl (by rw [hq1.out]; exact sizeG8) rfl ?_
          exact HE.out _ (hB.grown hG4 hB.size (fun k hk => by injection hk with hk; omega))
    · have hfI : (ks.length : Int) ≤ (q : Int) := by omega
      rw [if_pos hfI] at hR
      have hb1 := hbl 6
      have ho1 := hid (hoz.out 6)
      have hq1 := hid (hlz1.out 6)
      have HE := hid (HERR.out 6 · hR)
      obtain ⟨l1, hle⟩ : ∃ l, l = gM zM 6 := ⟨_, rfl⟩
      rw [← hle] at hb1 ho1 hq1 HE
      clear hle hbl hoz hlz1 HERR hR hky hkl hub hup hY hD hk hfin
      go_wp2_with (first | refine wp_bld 96 [(1, .const (.int .i64 6))] rfl rfl [(1, .int .i64 6)] rfl hb1 ?_ | refine wp_st 96 (.tmp 4) (.tmp 30) rfl rfl rfl (f := 0) rfl (l := l1) rfl hz (by rw [hlz.out, hq1.out]; omega) (by rw [hq1.out]; exact sizeG8) ho1.out ?_; intro w4 hz4 hG4; refine wp_stop ?_)
      rw [set_all _ _ (by rw [hlz.out, hq1.out])] at hz4
      refine wp_go ?_
      go_wp2
      refine ret_cell rfl rfl hz4.whole Tryd.underlying96 rfl (by rw [hq1.out]; exact sizeG8) rfl ?_
      exact HE.out _ (hB.grown hG4 hB.size (fun k hk => by injection hk with hk; omega))
end Go.Proofs.YthbbpfnfnnmdnaaDoor
