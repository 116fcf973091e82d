/- NH: layer 18: contract of an instance's Take. -/
import Derived.Test.YthbbpfnfnnmdnaaDoorLW
import Derived.Test.YthbbpfnfnnmdnaaDoorCr
import Derived.Test.YthbbpfnfnnmdnaaDoorCu
namespace Go.V
open Go.RowKit Go.Maps Go.ChangeShapes Go.WideShapes Go.ChangeMaps
/-- 'm[s]', by what it comes to -/
theorem step_lookR {P : Program} {w : World} {ops : Array Oper} {o : Oper} {a : Act} {K : Act → World → Prop} {Q : Exit → Act → World → Prop} {E : Prop} (t : TypeId) (m x : Operand) (hgd : o.guard = none) (ho : o.op = .lookup t m x false) {b : Nat} {u v : Value} (hm : a.eval m = .map (some b)) (hx : a.eval x = u)
    (hrun : (Instr.lookup t (.map (some b)) u false).run P w = .ok v w) (h : K (a.put o.dst v) w) : if Region.wanted o (yielded ops a.tmps) = true then Oper.wp P o a w K Q else E := by
  have hw : Region.wanted o (yielded ops a.tmps) = true := by simp [Region.wanted, hgd]
  rw [if_pos hw]
  unfold Oper.wp execOp
  simp only [ho, hm, hx, Sem.run_bind, Sem.run_pure, hrun, Result.andThen_ok]
  exact h
end Go.V
namespace Go.Proofs.YthbbpfnfnnmdnaaDoor
open Go.RowKit Go.V Go.Maps
theorem tk_err {ks : List (List UInt8)} {V : Vc} {slot : Int} {L : List Nv} {X : List UInt8} {k : Nat} (h : opOf ks V X = .error k) : tkE ks V slot L X = k ∧ tkL ks V slot L X = L := by
  have : tlC ks V slot X = .error k := by unfold tlC; rw [h]
  unfold tkE tkL
  rw [this]
  exact ⟨rfl, rfl⟩
theorem tk_kind {ks : List (List UInt8)} {V : Vc} {slot : Int} {L : List Nv} {X : List UInt8} {m : Mg} (h : opOf ks V X = .ok m) (h2 : m.k ≠ 2) (h3 : m.k ≠ 3) : tkE ks V slot L X = 15 ∧ tkL ks V slot L X = L := by
  have : tlC ks V slot X = .error 15 := by unfold tlC; rw [h]; exact if_pos ⟨h2, h3⟩
  unfold tkE tkL
  rw [this]
  exact ⟨rfl, rfl⟩
theorem tk_view {ks : List (List UInt8)} {V : Vc} {slot : Int} {L : List Nv} {X : List UInt8} {m : Mg} (h : opOf ks V X = .ok m) (h2 : m.k = 2 ∨ m.k = 3) (h3 : m.v ≠ V.n) : tkE ks V slot L X = 9 ∧ tkL ks V slot L X = L := by
  have : tlC ks V slot X = .error 9 := by
    unfold tlC
    rw [h]
    dsimp only
    rw [if_neg (by omega), if_pos h3]
  unfold tkE tkL
  rw [this]
  exact ⟨rfl, rfl⟩
theorem tk_slot {ks : List (List UInt8)} {V : Vc} {slot : Int} {L : List Nv} {X : List UInt8} {m : Mg} (h : opOf ks V X = .ok m) (h2 : m.k = 2 ∨ m.k = 3) (h3 : m.v = V.n) (h4 : m.s ≠ slot) : tkE ks V slot L X = 8 ∧ tkL ks V slot L X = L := by
  have : tlC ks V slot X = .error 8 := by
    unfold tlC
    rw [h]
    dsimp only
    rw [if_neg (by omega), if_neg (fun h => h h3), if_pos h4]
  unfold tkE tkL
  rw [this]
  exact ⟨rfl, rfl⟩
theorem tl_is {ks : List (List UInt8)} {V : Vc} {slot : Int} {X : List UInt8} {m : Mg} (h : opOf ks V X = .ok m) (h2 : m.k = 2 ∨ m.k = 3) (h3 : m.v = V.n) (h4 : m.s = slot) : tlC ks V slot X = .ok m := by
  unfold tlC
  rw [h]
  dsimp only
  rw [if_neg (by omega), if_neg (fun h => h h3), if_neg (fun h => h h4)]
theorem tk_old {ks : List (List UInt8)} {V : Vc} {slot : Int} {L : List Nv} {X : List UInt8} {m : Mg} (h : tlC ks V slot X = .ok m) (ha : L.any (sameV m) = true) : tkE ks V slot L X = 7 ∧ tkL ks V slot L X = L := by
  unfold tkE tkL
  rw [h]
  exact ⟨if_pos ha, if_pos ha⟩
theorem tk_new {ks : List (List UInt8)} {V : Vc} {slot : Int} {L : List Nv} {X : List UInt8} {m : Mg} (h : tlC ks V slot X = .ok m) (ha : L.any (sameV m) = false) : tkE ks V slot L X = 0 ∧ tkL ks V slot L X = L ++ [⟨m, X⟩] := by
  unfold tkE tkL
  rw [h]
  dsimp only
  rw [ha]
  exact ⟨rfl, rfl⟩
theorem NP.same {w w' : World} {v : Value} {M N : Nat → Prop} {ks : List (List UInt8)} {V : Vc} {slot : Int} {L : List Nv} (h : NX w v M N ks V slot L) (hB : Below w.heap.size w w') : NP w M w' v N ks V slot L M := ⟨h.below hB, fun _ h => .inl h, (Ch.refl _ _).belowR hB⟩
set_option maxRecDepth 100000 in
theorem bldBl18 (k r : Int) (h : List UInt8) (hh : h.length = 32) : ∀ W : World, (Instr.build 72 [(0, .int .i64 k), (1, .int .i64 r), (2, .agg (bvs h).toArray)].toArray).run Tryd.prog W = .ok (.agg (csB k r h).toArray) W := by
  match h, hh with
  | [a0, a1, a2, a3, a4, a5, a6, a7, a8, a9, a10, a11, a12, a13, a14, a15, a16, a17, a18, a19, a20, a21, a22, a23, a24, a25, a26, a27, a28, a29, a30, a31], _ => intro W; kernel_rfl
theorem ret_i18 {a b : Nat} (h : a = b) : Ending.returned (.int .i64 (a : Int)) = .returned (.int .i64 (b : Int)) := by rw [h]
set_option maxRecDepth 100000 in
set_option maxHeartbeats 16000000 in
theorem itake18_any (v : Value) (M N : Nat → Prop) (ks : List (List UInt8)) (V : Vc) (slot : Int) (L : List Nv) (X : List UInt8) (u : Value) (F0 : Nat → Prop) (w : World) (hKS : KS w) (hks : KsSm ks) (h : NX w v M N ks V slot L) (hu : Rd w F0 u (bys X)) (hX : X.length ≤ 1000) :
    Calls Tryd.prog 11 #[v, u] w fun e w' => e = .returned (.int .i64 (tkE ks V slot L X)) ∧ ∃ M', NP w M w' v N ks V slot (tkL ks V slot L X) M' := by
  obtain ⟨Au, cu, rfl⟩ := hu.shape
  have HNX := hid h
  obtain ⟨hN, p, b0, b1, b2, uk, F, rfl, hm, hM⟩ := h
  have HM' := hid hM
  have HN' := hid hN
  obtain ⟨n, m⟩ := V
  have hvb := hm.vb
  dsimp only at hvb
  have hvin := hm.vin
  have Hvin := hid hvin
  have HLb : Hid (∀ y ∈ L, Nb y.m) := hid (fun y hy => (hvin.nb hy).1)
  have hLlen : (entV L).length < maxLen := by have := hvin.len; unfold entV; rw [List.length_map]; simp only [maxLen]; omega
  have Hop : Hid (∀ W, KS W → Rd W F uk (tx (ks.take 16)) → Rd W F0 (.slice Au X.length cu) (bys X) → Calls Tryd.prog 20 #[.agg #[uk, .slice none 0 0], vw n m, .slice Au X.length cu] W (Op18 W (opOf ks ⟨n, m⟩ X))) := hid (fun W h0 h1 h2 => (openof9_any (ks.take 16) ⟨n, m⟩ X uk (.slice none 0 0) (.slice Au X.length cu) F F0 W h0 hks.cut h1 h2 (by omega) hvb).mono (fun e w' h => by have := op18 h; rwa [opof_cut] at this))
  unfold vw at Hop
  have HSame : Hid (∀ w', Below w.heap.size w w' → tkL ks ⟨n, m⟩ slot L X = L → ∃ M', NP w M w' (.pointer (some ⟨p, 0, none⟩)) N ks ⟨n, m⟩ slot (tkL ks ⟨n, m⟩ slot L X) M') := hid (fun w' hB e => ⟨M, by rw [e]; exact NP.same HNX.out hB⟩)
  clear hM hN hvin
  have HTl := hid (fun x => @tl_is ks ⟨n, m⟩ slot X x)
  have HTe := hid (fun k => @tk_err ks ⟨n, m⟩ slot L X k)
  have HTk := hid (fun x => @tk_kind ks ⟨n, m⟩ slot L X x)
  have HTv := hid (fun x => @tk_view ks ⟨n, m⟩ slot L X x)
  have HTs := hid (fun x => @tk_slot ks ⟨n, m⟩ slot L X x)
  have HTo := hid (fun x => @tk_old ks ⟨n, m⟩ slot L X x)
  have HTn := hid (fun x => @tk_new ks ⟨n, m⟩ slot L X x)
  have HTi := hid (tk_in hm.vin X)
  obtain ⟨r, hr⟩ : ∃ r, r = opOf ks ⟨n, m⟩ X := ⟨_, rfl⟩
  rw [← hr] at Hop HTe HTk HTv HTs HTl
  have Hr := hid hr
  obtain ⟨E, hE⟩ : ∃ E, E = tkE ks ⟨n, m⟩ slot L X := ⟨_, rfl⟩
  obtain ⟨L', hL'⟩ : ∃ L', L' = tkL ks ⟨n, m⟩ slot L X := ⟨_, rfl⟩
  rw [← hE] at HTe HTk HTv HTs HTo HTn
  rw [← hL'] at HTe HTk HTv HTs HTo HTn HSame HTi
  rw [← hE, ← hL']
  clear hr hE hL'
  have HK : Hid (∀ W, Ch nob w W → W.rangeAt p 0 [uk, .slice none 0 0]) := hid fun W hc => (hm.blk.ch hc (fun h => h)).range 0 _ (fun j v hv => by
    match j, hv with
    | 0, hv => exact hv
    | 1, hv => exact hv
    | j + 2, hv => cases hv)
  have HV : Hid (∀ W, Ch nob w W → W.rangeAt p 2 [.int .i64 n, .int .u16 (m : Int)]) := hid fun W hc => (hm.blk.ch hc (fun h => h)).range 2 _ (fun j v hv => by
    match j, hv with
    | 0, hv => exact hv
    | 1, hv => exact hv
    | j + 2, hv => cases hv)
  have HKS : Hid (∀ W, Ch nob w W → KS W) := hid fun W hc => hKS.below hc.below
  have HRk : Hid (∀ W, Ch nob w W → Rd W F uk (tx (ks.take 16))) := hid fun W hc => hm.keys.below hc.below
  have HRv : Hid (∀ W, Ch nob w W → Rd W F0 (.slice Au X.length cu) (bys X)) := hid fun W hc => hu.below hc.below
  go_enter Tryd.func11, Tryd.ntmps11
  go_upto_region 3 with (fail)
  go_cut [5, 6] (fun s5 s6 wx => ∃ (g : Nat) (lx : List Value) (x : Mg) (k : Nat), s5 = .pointer (some ⟨g, 0, none⟩) ∧ s6 = .int .i64 (k : Int) ∧ Blk wx g 59 lx ∧ w.heap.size ≤ g ∧ Below w.heap.size w wx ∧ Hid (MF lx x) ∧ Hid (k = 0 → r = .ok x) ∧ Hid (k ≠ 0 → r = .error k))
  case first =>
    refine wp_region_noPanic ?_
    refine wp_region_held_drew (S := Ch nob w) (by kernel_rfl) ((Ch.refl _ _).drew) (fun hHeld => ?_)
    refine tkP 0 rfl ?_
    refine tkP 1 rfl ?_
    refine tkP 2 rfl ?_
    refine tkY 3 rfl (yieldsIf_load_mid (by rfl) 33 (.tmp 15) (by rfl) _ (0) (by rfl) _ _ (fun _ hs => HK.out _ hs) Tryd.underlying33 rfl (sizeKs17)) ?_
    refine tkP 4 rfl ?_
    refine tkP 5 rfl ?_
    refine tkP 6 rfl ?_
    refine tkY 7 rfl (yieldsIf_load_mid (by rfl) 24 (.tmp 19) (by rfl) _ (2) (by rfl) _ _ (fun _ hs => HV.out _ hs) Tryd.underlying24 rfl (sizeVw17)) ?_
    refine tkP 8 rfl ?_
    refine wpAnyH_ready (rs := [9, 13]) (by kernel_rfl) (by simp) ?_
    refine AllReadyH.cons (o := ⟨some 22, _, _, _, _, none⟩) rfl (fun K hK => ?_) ?_
    · go_simp
      refine (Hop.out _ (HKS.out _ hHeld) (HRk.out _ hHeld) (HRv.out _ hHeld)).mono ?_
      rintro e' w9 ⟨x, xA, xB, a1, a2, a3, a4, k, rfl, hxh, h0, h1, hB9⟩
      have hmf : MF (x.l (.slice xA a1 a2) (.slice xB a3 a4)) x := mf_of hxh _ _
      have hl39 := hid (len_mg hxh (.slice xA a1 a2) (.slice xB a3 a4))
      have Hlo := hid (mg_one x xA xB a1 a2 a3 a4)
      obtain ⟨lx, hlx⟩ : ∃ l, l = x.l (.slice xA a1 a2) (.slice xB a3 a4) := ⟨_, rfl⟩
      rw [← hlx] at hmf hl39 Hlo ⊢
      clear hlx
      refine hK.out _ _ (hHeld.belowR hB9) (fun hHeld => ?_)
      clear hK K
      try simp only [nP]
      refine tkP 10 rfl ?_
      refine tkP 11 rfl ?_
      refine tkP 12 rfl ?_
      refine rdH 13 rfl (fun K hK => ?_)
      refine step_new 59 (by rfl) (by rfl) zeroM ?_
      intro g5 w13 hg5 hgl5 hz5 hB13
      have hg5 : w.heap.size ≤ g5 := Nat.le_trans hHeld.size hg5
      refine hK.out _ _ (hHeld.belowR hB13) (fun hHeld => ?_)
      clear hK K
      try simp only [nP]
      refine rdH 14 rfl (fun K hK => ?_)
      refine step_st 59 (.tmp 5) (.tmp 23) (by rfl) (by rfl) (by rfl) (f := 0) (by rfl) (l := lx) (by rfl) hz5 (by rw [hl39.out, len_zM]; omega) (by rw [hl39.out]; exact sizeM) Hlo.out ?_
      intro w14 hz14 hG14
      rw [set_all _ _ (by rw [hl39.out]; exact len_zM)] at hz14
      refine hK.out _ _ (hHeld.grow hG14 (fun k hk => .inr (by injection hk with hk; omega))) (fun hHeld => ?_)
      clear hK K
      try simp only [nP]
      refine tkP 15 rfl ?_
      refine wpAnyH_done (by kernel_rfl) ?_ _
      refine NoPanic.normal ?_
      go_wp2
      go_meet
      exact ⟨g5, lx, x, k, rfl, rfl, hz14, hg5, hHeld.below, hid hmf, hid h0, hid h1⟩
    refine AllReadyH.cons (o := ⟨some 5, .alloc _, _, _, _, none⟩) rfl (fun K hK => ?_) AllReadyH.nil
    refine step_new 59 (by rfl) (by rfl) zeroM ?_
    intro g5 w13 hg5 hgl5 hz5 hB13
    have hg5 : w.heap.size ≤ g5 := Nat.le_trans hHeld.size hg5
    refine hK.out _ _ (hHeld.belowR hB13) (fun hHeld => ?_)
    clear hK K
    try simp only [nP]
    refine rdH 9 rfl (fun K hK => ?_)
    go_simp
    refine (Hop.out _ (HKS.out _ hHeld) (HRk.out _ hHeld) (HRv.out _ hHeld)).mono ?_
    rintro e' w9 ⟨x, xA, xB, a1, a2, a3, a4, k, rfl, hxh, h0, h1, hB9⟩
    have hmf : MF (x.l (.slice xA a1 a2) (.slice xB a3 a4)) x := mf_of hxh _ _
    have hl39 := hid (len_mg hxh (.slice xA a1 a2) (.slice xB a3 a4))
    have Hlo := hid (mg_one x xA xB a1 a2 a3 a4)
    obtain ⟨lx, hlx⟩ : ∃ l, l = x.l (.slice xA a1 a2) (.slice xB a3 a4) := ⟨_, rfl⟩
    rw [← hlx] at hmf hl39 Hlo ⊢
    clear hlx
    have hz5 := hz5.below hB9
    refine hK.out _ _ (hHeld.belowR hB9) (fun hHeld => ?_)
    clear hK K
    try simp only [nP]
    refine tkP 10 rfl ?_
    refine tkP 11 rfl ?_
    refine tkP 12 rfl ?_
    refine rdH 14 rfl (fun K hK => ?_)
    refine step_st 59 (.tmp 5) (.tmp 23) (by rfl) (by rfl) (by rfl) (f := 0) (by rfl) (l := lx) (by rfl) hz5 (by rw [hl39.out, len_zM]; omega) (by rw [hl39.out]; exact sizeM) Hlo.out ?_
    intro w14 hz14 hG14
    rw [set_all _ _ (by rw [hl39.out]; exact len_zM)] at hz14
    refine hK.out _ _ (hHeld.grow hG14 (fun k hk => .inr (by injection hk with hk; omega))) (fun hHeld => ?_)
    clear hK K
    try simp only [nP]
    refine tkP 15 rfl ?_
    refine wpAnyH_done (by kernel_rfl) ?_ _
    refine NoPanic.normal ?_
    go_wp2
    go_meet
    exact ⟨g5, lx, x, k, rfl, rfl, hz14, hg5, hHeld.below, hid hmf, hid h0, hid h1⟩
  case rest =>
    obtain ⟨g5, lx, x, k, rfl, rfl, b5, hg5, hB, HMF, H0, H1⟩ := hcut
    have hmc := hm.below hB
    have huc := hu.below hB
    clear HK HV HKS HRk HRv Hop hKS hu
    by_cases hk : k = 0
    · have hrx := H0.out hk
      subst hk
      have Hrx := hid hrx
      clear hrx H0 H1 HTe
      have x0 := b5.cellAt 0 _ HMF.out.c0
      by_cases q2 : x.k = 2 ∨ x.k = 3
      · have Q2 := hid q2
        have hcond : Hid (((x.k != 2) = true ∧ (x.k != 3) = false) ∨ (x.k != 2) = false) := hid (by rcases q2 with q | q; exact .inr (bneI q); exact .inl ⟨bneN (by omega), bneI q⟩)
        clear q2
        go_upto_region 6 with (fail)
        go_cut [29] (fun s29 wx => s29 = .bool false ∧ wx = wc)
        case first =>
          rcases hcond.out with ⟨k2, k3⟩ | k2
          · go_wp2
            go_meet
            exact ⟨rfl, rfl⟩
          · go_wp2
            go_meet
            exact ⟨rfl, rfl⟩
        case rest =>
          obtain ⟨rfl, hwx⟩ := hcut
          subst hwx
          obtain ⟨c4, hc4⟩ : ∃ c, (x.v != n) = c := ⟨_, rfl⟩
          obtain ⟨c5, hc5⟩ : ∃ c, (x.s != slot) = c := ⟨_, rfl⟩
          have HC4 := hid hc4
          have HC5 := hid hc5
          go_upto_region 8 with (fail)
          have HX2 : Hid (∀ W, Ch nob wc W → W.cell? ⟨g5, 2, none⟩ = some (.int .i64 x.v)) := hid fun W hc => (b5.ch hc (fun h => h)).cellAt 2 _ HMF.out.c2
          have HN : Hid (∀ W, Ch nob wc W → W.cell? ⟨p, 2, none⟩ = some (.int .i64 n)) := hid fun W hc => (hmc.blk.ch hc (fun h => h)).cellAt 2 _ rfl
          refine wp_region_noPanic ?_
          refine wp_region_held_drew (S := Ch nob wc) (by kernel_rfl) ((Ch.refl _ _).drew) (fun hHeld => ?_)
          refine tkP 0 rfl ?_
          refine tkF 1 rfl HX2.out ?_
          refine tkP 2 rfl ?_
          refine tkP 3 rfl ?_
          refine tkP 4 rfl ?_
          refine tkP 5 rfl ?_
          refine tkF 6 rfl HN.out ?_
          refine tkP 7 rfl ?_
          refine tkP 8 rfl ?_
          refine wpAnyH_done (by kernel_rfl) ?_ _
          refine NoPanic.normal ?_
          have b5 := b5.below hHeld.below
          have hmc := hmc.below hHeld.below
          have huc := huc.below hHeld.below
          have hB := hB.trans (hHeld.below.mono hB.size)
          clear HX2 HN hHeld
          obtain ⟨w1, hw1⟩ : ∃ y, y = wc.drew := ⟨_, rfl⟩
          rw [← hw1] at b5 hmc huc hB ⊢
          clear hw1 hc4
          cases c4 with
          | true =>
            have he := HTv.out x Hrx.out Q2.out (bne_iff_ne.1 HC4.out)
            have hfin := HSame.out w1 hB he.2
            have He := hid he.1
            clear he b5 hmc huc
            go_wp2
            go_ret
            exact ⟨ret_i18 He.out.symm, hfin⟩
          | false =>
            have Hv : Hid (x.v = n) := hid (by have := HC4.out; simpa using this)
            go_upto_region 10 with (fail)
            have HX4 : Hid (∀ W, Ch nob w1 W → W.cell? ⟨g5, 4, none⟩ = some (.int .i64 x.s)) := hid fun W hc => (b5.ch hc (fun h => h)).cellAt 4 _ HMF.out.c4
            have HS : Hid (∀ W, Ch nob w1 W → W.cell? ⟨p, 4, none⟩ = some (.int .i64 slot)) := hid fun W hc => (hmc.blk.ch hc (fun h => h)).cellAt 4 _ rfl
            refine wp_region_noPanic ?_
            refine wp_region_held_drew (S := Ch nob w1) (by kernel_rfl) ((Ch.refl _ _).drew) (fun hHeld => ?_)
            refine tkP 0 rfl ?_
            refine tkF 1 rfl HX4.out ?_
            refine tkP 2 rfl ?_
            refine tkP 3 rfl ?_
            refine tkP 4 rfl ?_
            refine tkF 5 rfl HS.out ?_
            refine tkP 6 rfl ?_
            refine tkP 7 rfl ?_
            refine wpAnyH_done (by kernel_rfl) ?_ _
            refine NoPanic.normal ?_
            have b5 := b5.below hHeld.below
            have hmc := hmc.below hHeld.below
            have huc := huc.below hHeld.below
            have hB := hB.trans (hHeld.below.mono hB.size)
            clear HX4 HS hHeld
            obtain ⟨w2, hw2⟩ : ∃ y, y = w1.drew := ⟨_, rfl⟩
            rw [← hw2] at b5 hmc huc hB ⊢
            clear hw2 hc5
            cases c5 with
            | true =>
              have he := HTs.out x Hrx.out Q2.out Hv.out (bne_iff_ne.1 HC5.out)
              have hfin := HSame.out w2 hB he.2
              have He := hid he.1
              clear he b5 hmc huc
              go_wp2
              go_ret
              exact ⟨ret_i18 He.out.symm, hfin⟩
            | false =>
              have Htl := hid (HTl.out x Hrx.out Q2.out Hv.out (by have := HC5.out; simpa using this))
              have hnb : Nb x := (op_nb (Hr.out.symm.trans Hrx.out)).1
              have Hnb := hid hnb
              have HkP : Hid (.agg #[.int .i64 x.k, .int .i64 x.r, .int .i64 x.f] = vM.kv (ky3 x.k x.r x.f)) := hid (ky3_v hnb.k hnb.r hnb.fi).symm
              have x0 := b5.cellAt 0 _ HMF.out.c0
              have x1 := b5.cellAt 1 _ HMF.out.c1
              have x3 := b5.cellAt 3 _ HMF.out.c3
              clear hnb
              go_wp2_with (first | refine wp_bld 69 [(0, .tmp 56), (1, .tmp 58), (2, .tmp 60)] rfl rfl [(0, .int .i64 x.k), (1, .int .i64 x.r), (2, .int .i64 x.f)] rfl (bldPl18 _ _ _) ?_ | (refine wp_newst 69 7 (.tmp 61) rfl rfl rfl rfl rfl rfl zeroPl18 (l := [.int .i64 x.k, .int .i64 x.r, .int .i64 x.f]) rfl rfl sizePl18 (by simp [Value.oneCell']) (by simp [Act.put]) ?_; intro w3 b7 hB3 hs3; refine wp_stop ?_))
              have b5 := b5.below hB3
              have hmc := hmc.below hB3
              have huc := huc.below hB3
              have h7w := hB.size
              have hB := hB.trans (hB3.mono hB.size)
              obtain ⟨g7, hg7⟩ : ∃ g, g = w2.heap.size := ⟨_, rfl⟩
              rw [← hg7] at b7 h7w ⊢
              clear hs3 hB3 hg7 x0 x1 x3
              refine wp_go ?_
              go_upto_region 13 with (fail)
              have HC : Hid (∀ W, Ch nob w3 W → W.cell? ⟨p, 6, none⟩ = some (.map (some b1))) := hid fun W hc => (hmc.blk.ch hc (fun h => h)).cellAt 6 _ rfl
              have HP : Hid (∀ W, Ch nob w3 W → W.rangeAt g7 0 [.int .i64 x.k, .int .i64 x.r, .int .i64 x.f]) := hid fun W hc => b7.chAt (fun h => h) hc
              have HM : Hid (∀ W, Ch nob w3 W → MpS vM W F b1 (entV L)) := hid fun W hc => hmc.vm.below hc.below
              cases hany : L.any (sameV x) with
              | true =>
                obtain ⟨d0, hd0⟩ : ∃ d0, findS (entV L) (ky3 x.k x.r x.f) = some d0 := by
                  cases hq : findS (entV L) (ky3 x.k x.r x.f) with
                  | some d => exact ⟨d, rfl⟩
                  | none =>
                    rw [(vf_none HLb.out Hnb.out).1 hq] at hany
                    cases hany
                have Hf := hid hd0
                have he := HTo.out x Htl.out hany
                have He := hid he.1
                have He2 := hid he.2
                clear hany hd0 he
                refine wp_region_noPanic ?_
                refine wp_region_held_drew (S := Ch nob w3) (by kernel_rfl) ((Ch.refl _ _).drew) (fun hHeld => ?_)
                refine tkP 0 rfl ?_
                refine tkP 1 rfl ?_
                refine tkP 2 rfl ?_
                refine tkF 3 rfl HC.out ?_
                refine tkY 4 rfl (yieldsIf_load_mid (by rfl) 69 (.tmp 7) (by rfl) _ (0) (by rfl) _ _ (fun _ hs => HP.out _ hs) Tryd.underlying69 rfl (sizePl18)) ?_
                refine rdH 5 rfl (fun K hK => ?_)
                refine step_lookS 62 35 (.tmp 66) (.tmp 67) true (by rfl) (by rfl) Tryd.underlying62 (zBy18 _) (by rfl) (HM.out _ hHeld) (s := ky3 x.k x.r x.f) HkP.out ?_ ?_
                · intro h; rw [Hf.out] at h; cases h
                intro d2 v2 hd2 hv2
                rw [if_pos rfl]
                refine hK.out _ _ (hHeld) (fun hHeld => ?_)
                clear hK K
                try simp only [nP]
                refine tkP 6 rfl ?_
                refine tkP 7 rfl ?_
                refine tkP 8 rfl ?_
                refine tkP 9 rfl ?_
                refine tkP 10 rfl ?_
                refine wpAnyH_done (by kernel_rfl) ?_ _
                refine NoPanic.normal ?_
                have hfin := HSame.out _ (hB.trans (hHeld.below.mono hB.size)) He2.out
                clear HC HP HM hHeld b5 b7 hmc huc
                go_wp2
                go_ret
                exact ⟨ret_i18 He.out.symm, hfin⟩
              | false =>
                have Hf := hid ((vf_none HLb.out Hnb.out).2 hany)
                have Hany := hid hany
                have he := HTn.out x Htl.out hany
                have He := hid he.1
                have He2 := hid he.2
                clear hany he
                refine wp_region_noPanic ?_
                refine wp_region_held_drew (S := Ch nob w3) (by kernel_rfl) ((Ch.refl _ _).drew) (fun hHeld => ?_)
                refine tkP 0 rfl ?_
                refine tkP 1 rfl ?_
                refine tkP 2 rfl ?_
                refine tkF 3 rfl HC.out ?_
                refine tkY 4 rfl (yieldsIf_load_mid (by rfl) 69 (.tmp 7) (by rfl) _ (0) (by rfl) _ _ (fun _ hs => HP.out _ hs) Tryd.underlying69 rfl (sizePl18)) ?_
                refine rdH 5 rfl (fun K hK => ?_)
                refine step_lookS 62 35 (.tmp 66) (.tmp 67) true (by rfl) (by rfl) Tryd.underlying62 (zBy18 _) (by rfl) (HM.out _ hHeld) (s := ky3 x.k x.r x.f) HkP.out ?_ ?_
                rotate_left
                · intro d2 v2 hd2 hv2; rw [Hf.out] at hd2; cases hd2
                intro hd2
                rw [if_pos rfl]
                refine hK.out _ _ (hHeld) (fun hHeld => ?_)
                clear hK K
                try simp only [nP]
                refine tkP 6 rfl ?_
                refine tkP 7 rfl ?_
                refine tkP 8 rfl ?_
                refine tkP 9 rfl ?_
                refine tkP 10 rfl ?_
                refine wpAnyH_done (by kernel_rfl) ?_ _
                refine NoPanic.normal ?_
                have b5 := b5.below hHeld.below
                have b7 := b7.below hHeld.below
                have hmq := hmc.below hHeld.below
                have hud := huc.below hHeld.below
                have hB := hB.trans (hHeld.below.mono hB.size)
                clear HC HP HM hHeld hmc huc
                obtain ⟨wq, hwq⟩ : ∃ y, y = w3.drew := ⟨_, rfl⟩
                rw [← hwq] at b5 b7 hmq hud hB ⊢
                clear hwq
                go_upto_region 16 with (fail)
                replace hud := hud.drew
                have h7b : g7 ≠ b1 := by have := HNX.out.lt b1 (.inl ((HM'.out b1).2 (.inr (.inl rfl)))); omega
                have h5b : g5 ≠ b1 ∧ g5 ≠ b2 := by
                  have h1 := HNX.out.lt b1 (.inl ((HM'.out b1).2 (.inr (.inl rfl))))
                  have h2 := HNX.out.lt b2 (.inl ((HM'.out b2).2 (.inr (.inr (.inl rfl)))))
                  exact ⟨by omega, by omega⟩
                have HC : Hid (∀ W, Ch (fun y => y = b1) wq W → W.cell? ⟨p, 6, none⟩ = some (.map (some b1))) := hid fun W hc => (hmq.blk.ch hc hmq.ne.1).cellAt 6 _ rfl
                have HP : Hid (∀ W, Ch (fun y => y = b1) wq W → W.rangeAt g7 0 [.int .i64 x.k, .int .i64 x.r, .int .i64 x.f]) := hid fun W hc => b7.chAt h7b hc
                refine wp_region_noPanic ?_
                refine wp_region_held_drew (S := Ch (fun y => y = b1) wq) (by kernel_rfl) ((Ch.refl _ _).drew) (fun hHeld => ?_)
                refine tkP 0 rfl ?_
                refine tkP 1 rfl ?_
                refine tkP 2 rfl ?_
                refine tkF 3 rfl HC.out ?_
                refine tkY 4 rfl (yieldsIf_load_mid (by rfl) 69 (.tmp 7) (by rfl) _ (0) (by rfl) _ _ (fun _ hs => HP.out _ hs) Tryd.underlying69 rfl (sizePl18)) ?_
                refine tkP 5 rfl ?_
                refine rdH 6 rfl (fun K hK => ?_)
                go_simp
                refine (bclone_any X _ _ _ hud (by omega)).mono ?_
                rintro e' w7 ⟨v7, rfl, ho7, hB7⟩
                obtain ⟨A8, c8, rfl⟩ := own_shape ho7
                have hC7 := hHeld.belowR hB7
                have hsw7 := hB7.size
                have hv7 : Rd w7 (fun y => F y ∨ (wq.heap.size ≤ y ∧ y < w7.heap.size)) (.slice A8 X.length c8) (bys X) := (Rd.of_own ho7).weak (fun y hy h => .inr ⟨h, hy⟩)
                have hM7 : MpS vM w7 (fun y => F y ∨ (wq.heap.size ≤ y ∧ y < w7.heap.size)) b1 (entV L) := (MpS.weak (F' := fun y => F y ∨ (wq.heap.size ≤ y ∧ y < w7.heap.size)) (MpS.keep (F' := F) (w' := wq.drew) hmq.vm rfl (fun y _ h => ⟨h, rfl⟩)) (fun y _ h => .inl h)).below hB7
                have hF7 : ¬ (F b1 ∨ (wq.heap.size ≤ b1 ∧ b1 < w7.heap.size)) := fun h => h.elim (fun h => (hmq.f b1 h).2.1 rfl) (fun h => by have := hmq.vm.lt; omega)
                refine hK.out _ _ (hC7) (fun hHeld => ?_)
                clear hK K
                try simp only [nP]
                refine rdH 7 rfl (fun K hK => ?_)
                refine step_putS 62 35 (.tmp 75) (.tmp 76) (.tmp 78) (by rfl) (by rfl) Tryd.underlying62 (by rfl) hM7 hLlen (s := ky3 x.k x.r x.f) HkP.out (v := .slice A8 X.length c8) (by rfl) (d := X) hv7 hF7 ?_
                intro w8 hM8 hG8 hs8
                refine hK.out _ _ (hC7.grow hG8 (fun k hk => .inl (by injection hk with hk; exact hk.symm))) (fun hHeld => ?_)
                clear hK K
                try simp only [Act.put]
                refine wpAnyH_done (by kernel_rfl) ?_ _
                refine NoPanic.normal ?_
                have hC8 := hHeld
                have hsw8 : w7.heap.size ≤ w8.heap.size := by omega
                have hbl8 := hmq.blk.ch hC8 hmq.ne.1
                have hky8 : Rd w8 F uk (tx (ks.take 16)) := hmq.keys.keep (fun y hy hF => ⟨hF, hC8.block y hy (hmq.f y hF).2.1⟩)
                have hvm8 := hM8.perm (vf_put HLb.out Hnb.out X Hany.out)
                obtain ⟨B, hsmq, hBR⟩ := hmq.sm
                have hsm8 := hsmq.keep (F' := nob) (hC8.block b2 hsmq.lt (fun h => hmq.ne.2.2 h.symm)) (fun y _ h => h.elim)
                have b5 := b5.ch hC8 h5b.1
                have hqs : p < wq.heap.size ∧ b1 < wq.heap.size ∧ b2 < wq.heap.size := ⟨hmq.blk.lt, hmq.vm.lt, hsmq.lt⟩
                have Hq := hid (⟨hmq.ne, hmq.f⟩ : (p ≠ b1 ∧ p ≠ b2 ∧ b1 ≠ b2) ∧ ∀ y, F y → y ≠ p ∧ y ≠ b1 ∧ y ≠ b2 ∧ y < wq.heap.size)
                have hszq := hC8.size
                clear HC HP hHeld hM8 hG8 hM7 hv7 hF7 hC7 ho7 hB7 hud b7 hmq hsmq
                obtain ⟨w9, hw9⟩ : ∃ y, y = w8 := ⟨_, rfl⟩
                rw [← hw9] at b5 hbl8 hky8 hvm8 hsm8 hC8 hsw8 hs8 hszq ⊢
                clear hw9
                obtain ⟨a, ha⟩ := Int.eq_ofNat_of_zero_le Hnb.out.f.1
                have ha16 : a < 16 := by have := Hnb.out.f.2; omega
                have hS16 := hBR.lt Hnb.out.k Hnb.out.r Hnb.out.h
                have hBl : B.length < maxLen := by have := hBR.len; have h2 := Hvin.out.len; simp only [maxLen]; omega
                have HLk : Hid (∀ W L1, MpS sM W nob b2 L1 → findS L1 (kyB x.k x.r x.h) = some ((findS B (kyB x.k x.r x.h)).getD 0) → (Instr.lookup 63 (.map (some b2)) (sM.kv (kyB x.k x.r x.h)) false).run Tryd.prog W = .ok (.int .u16 (((findS B (kyB x.k x.r x.h)).getD 0 : Nat) : Int)) W) := hid (fun W L1 h1 h2 => by have := look_w h1 (kyB x.k x.r x.h); rw [h2] at this; exact this)
                have hsm9d : MpS sM w9.drew nob b2 B := hsm8.keep (F' := nob) rfl (fun y _ h => h.elim)
                have HLd := hid (look_w hsm9d (kyB x.k x.r x.h))
                have hent := hid (MpS.run_entry (T := sM) blK.kl hsm9d 63 22 Tryd.underlying63 (z := .int .u16 0) (fun W => zU18 W) (z0 := 0) rfl hBl (fun h => h) (kyB x.k x.r x.h))
                have hbr := hid (hBR.put Hnb.out X)
                rw [ha, Int.toNat_natCast] at hbr
                obtain ⟨S, hS⟩ : ∃ S, S = (findS B (kyB x.k x.r x.h)).getD 0 := ⟨_, rfl⟩
                rw [← hS] at hbr HLk HLd hent hS16
                have hor := or_bit17 S a hS16 ha16
                obtain ⟨S', hS'⟩ : ∃ S', S' = putB S a := ⟨_, rfl⟩
                rw [← hS'] at hor hbr
                have hFIN : Hid (∀ w', Ch (fun y => y = b2) w9 w' → MpS sM w' nob b2 ((kyB x.k x.r x.h, S') :: woS B (kyB x.k x.r x.h)) → Ending.returned (.int .i64 0) = Ending.returned (.int .i64 ((E : Nat) : Int)) ∧ ∃ M', NP w M w' (.pointer (some ⟨p, 0, none⟩)) N ks ⟨n, m⟩ slot L' M') := hid (fun w' hc hM18 => by
                  obtain ⟨hne, hf⟩ := Hq.out
                  have hsz' := hc.size
                  have hwq := hB.size
                  have hF2 : ∀ y, (F y ∨ (wq.heap.size ≤ y ∧ y < w7.heap.size)) → y ≠ p ∧ y ≠ b1 ∧ y ≠ b2 ∧ y < w9.heap.size := fun y hy => hy.elim (fun h => ⟨(hf y h).1, (hf y h).2.1, (hf y h).2.2.1, by have := (hf y h).2.2.2; omega⟩) (fun h => ⟨by omega, by omega, by omega, by omega⟩)
                  refine ⟨by rw [He.out]; rfl, fun y => y = p ∨ y = b1 ∨ y = b2 ∨ (F y ∨ (wq.heap.size ≤ y ∧ y < w7.heap.size)), ⟨⟨fun y hy => by have := HN'.out y hy; omega, p, b0, b1, b2, uk, fun y => F y ∨ (wq.heap.size ≤ y ∧ y < w7.heap.size), rfl, ⟨hbl8.ch hc hne.2.1, ?_, ?_, ⟨_, hM18, ?_⟩, HTi.out, hvb, hne, fun y hy => ⟨(hF2 y hy).1, (hF2 y hy).2.1, (hF2 y hy).2.2.1, by have := (hF2 y hy).2.2.2; omega⟩⟩, fun y => Iff.rfl⟩, ?_, ?_⟩⟩
                  · exact hky8.keep (fun y hy hF => ⟨.inl hF, hc.block y hy (hf y hF).2.2.1⟩)
                  · rw [He2.out]
                    exact hvm8.keep (hc.block b1 hvm8.lt hne.2.2) (fun y hy hF => ⟨hF, hc.block y hy (hF2 y hF).2.2.1⟩)
                  · rw [He2.out]
                    exact hbr.out
                  · rintro y (h | h | h | h | h)
                    · exact .inl ((HM'.out y).2 (.inl h))
                    · exact .inl ((HM'.out y).2 (.inr (.inl h)))
                    · exact .inl ((HM'.out y).2 (.inr (.inr (.inl h))))
                    · exact .inl ((HM'.out y).2 (.inr (.inr (.inr h))))
                    · exact .inr (by have := h.1; omega)
                  · exact ((Ch.of_below hB).weaken (G' := M) (fun y _ h => h.elim)).trans ((hC8.weaken (G' := M) (fun y _ h => (HM'.out y).2 (.inr (.inl h)))).trans (hc.weaken (G' := M) (fun y _ h => (HM'.out y).2 (.inr (.inr (.inl h)))))))
                have HC : Hid (∀ W, Ch (fun y => y = b2) w9 W → W.cell? ⟨p, 7, none⟩ = some (.map (some b2))) := hid fun W hc => (hbl8.ch hc Hq.out.1.2.1).cellAt 7 _ rfl
                have HX0 : Hid (∀ W, Ch (fun y => y = b2) w9 W → W.cell? ⟨g5, 0, none⟩ = some (.int .i64 x.k)) := hid fun W hc => (b5.ch hc h5b.2).cellAt 0 _ HMF.out.c0
                have HX1 : Hid (∀ W, Ch (fun y => y = b2) w9 W → W.cell? ⟨g5, 1, none⟩ = some (.int .i64 (a : Int))) := hid fun W hc => (b5.ch hc h5b.2).cellAt 1 _ (by rw [← ha]; exact HMF.out.c1)
                have HX3 : Hid (∀ W, Ch (fun y => y = b2) w9 W → W.cell? ⟨g5, 3, none⟩ = some (.int .i64 x.r)) := hid fun W hc => (b5.ch hc h5b.2).cellAt 3 _ HMF.out.c3
                have HXh : Hid (∀ W, Ch (fun y => y = b2) w9 W → W.rangeAt g5 5 (bvs x.h)) := hid fun W hc => (b5.ch hc h5b.2).range 5 _ HMF.out.ch
                have Hkv : Hid (.agg (csB x.k x.r x.h).toArray = sM.kv (kyB x.k x.r x.h)) := hid (kyB_v Hnb.out.k Hnb.out.r Hnb.out.h).symm
                have Hbb := hid (bldBl18 x.k x.r x.h Hnb.out.h)
                have Hbl : Hid ((bvs x.h).length = 32) := hid (by rw [len_bvs]; exact Hnb.out.h)
                obtain ⟨bh, hbh⟩ : ∃ bh, bh = bvs x.h := ⟨_, rfl⟩
                rw [← hbh] at HXh Hbb Hbl
                obtain ⟨lc, hlc⟩ : ∃ lc, lc = csB x.k x.r x.h := ⟨_, rfl⟩
                rw [← hlc] at Hkv Hbb
                clear hbh hlc ha hS hS' hS16 hBl hsm9d hsm8 hvm8 hky8 hbl8 hC8 b5 hbr hBR
                go_upto_region 17 with (fail)
                refine wp_region_noPanic ?_
                refine wp_region_held_drew (S := Ch (fun y => y = b2) w9) (by kernel_rfl) ((Ch.refl _ _).drew) (fun hHeld => ?_)
                refine tkP 0 rfl ?_
                refine tkP 1 rfl ?_
                refine tkP 2 rfl ?_
                refine tkF 3 rfl HC.out ?_
                refine tkP 4 rfl ?_
                refine tkF 5 rfl HX0.out ?_
                refine tkP 6 rfl ?_
                refine tkF 7 rfl HX3.out ?_
                refine tkP 8 rfl ?_
                refine tkY 9 rfl (yieldsIf_load_mid (by rfl) 41 (.tmp 87) (by rfl) _ (5) (by rfl) _ _ (fun _ hs => HXh.out _ hs) Tryd.underlying41 rfl (by rw [Hbl.out]; exact size25)) ?_
                refine tkY 10 rfl (y_bld (by rfl) 72 [(0, .tmp 84), (1, .tmp 86), (2, .tmp 88)] (by rfl) [(0, .int .i64 x.k), (1, .int .i64 x.r), (2, .agg bh.toArray)] (by rfl) Hbb.out) ?_
                refine tkP 12 rfl ?_
                refine tkF 13 rfl HX1.out ?_
                refine tkP 14 rfl ?_
                refine wpAnyH_ready (rs := [11, 16]) (by kernel_rfl) (by simp) ?_
                refine AllReadyH.cons (o := ⟨some 90, .lookup _ _ _ _, _, _, _, none⟩) rfl (fun K hK => ?_) ?_
                · refine step_lookR 63 (.tmp 82) (.tmp 89) (by rfl) (by rfl) (by rfl) Hkv.out (HLd.out) ?_
                  refine hK.out _ _ (hHeld) (fun hHeld => ?_)
                  clear hK K
                  try simp only [nP]
                  refine tkP 15 rfl ?_
                  refine rdH 16 rfl (fun K hK => ?_)
                  obtain ⟨v16, st, w16, L1, hr16, hM16, hf16, hG16, hs16, hst⟩ := hent.out
                  refine step_entryS (T := sM) 63 (.tmp 82) (.tmp 89) (by rfl) (by rfl) (by rfl) Hkv.out hr16 ?_
                  refine hK.out _ _ (hHeld.grow hG16 (fun k hk => .inl (by injection hk with hk; exact hk.symm))) (fun hHeld => ?_)
                  clear hK K
                  try simp only [nP]
                  refine tkP 17 rfl ?_
                  refine rdH 18 rfl (fun K hK => ?_)
                  obtain ⟨w18, hr18, hM18, hG18, hs18⟩ := hst w16 (.int .u16 (S' : Int)) S' rfl (fun y _ h => h.elim) rfl
                  refine step_estoreS (st := st) (val := .int .u16 (S' : Int)) 63 (.tmp 82) (.tmp 96) (.tmp 94) (by rfl) (by rfl) (by rfl) (by rfl) (by rfl) hr18 ?_
                  refine hK.out _ _ (hHeld.grow hG18 (fun k hk => .inl (by injection hk with hk; exact hk.symm))) (fun hHeld => ?_)
                  clear hK K
                  try simp only [Act.put]
                  refine wpAnyH_done (by kernel_rfl) ?_ _
                  refine NoPanic.normal ?_
                  have hfin := hFIN.out w18 hHeld hM18
                  clear hHeld hM18 hG18
                  go_wp2
                  go_ret
                  exact hfin
                refine AllReadyH.cons (o := ⟨some 95, .mapEntry _ _ _, _, _, _, none⟩) rfl (fun K hK => ?_) AllReadyH.nil
                obtain ⟨v16, st, w16, L1, hr16, hM16, hf16, hG16, hs16, hst⟩ := hent.out
                refine step_entryS (T := sM) 63 (.tmp 82) (.tmp 89) (by rfl) (by rfl) (by rfl) Hkv.out hr16 ?_
                refine hK.out _ _ (hHeld.grow hG16 (fun k hk => .inl (by injection hk with hk; exact hk.symm))) (fun hHeld => ?_)
                clear hK K
                try simp only [nP]
                refine tkP 17 rfl ?_
                refine rdH 11 rfl (fun K hK => ?_)
                refine step_lookR 63 (.tmp 82) (.tmp 89) (by rfl) (by rfl) (by rfl) Hkv.out (HLk.out _ _ hM16 hf16) ?_
                refine hK.out _ _ (hHeld) (fun hHeld => ?_)
                clear hK K
                try simp only [nP]
                refine tkP 15 rfl ?_
                refine rdH 18 rfl (fun K hK => ?_)
                obtain ⟨w18, hr18, hM18, hG18, hs18⟩ := hst w16 (.int .u16 (S' : Int)) S' rfl (fun y _ h => h.elim) rfl
                refine step_estoreS (st := st) (val := .int .u16 (S' : Int)) 63 (.tmp 82) (.tmp 96) (.tmp 94) (by rfl) (by rfl) (by rfl) (by rfl) (by rfl) hr18 ?_
                refine hK.out _ _ (hHeld.grow hG18 (fun k hk => .inl (by injection hk with hk; exact hk.symm))) (fun hHeld => ?_)
                clear hK K
                try simp only [Act.put]
                refine wpAnyH_done (by kernel_rfl) ?_ _
                refine NoPanic.normal ?_
                have hfin := hFIN.out w18 hHeld hM18
                clear hHeld hM18 hG18
                go_wp2
                go_ret
                exact hfin
      · have he := HTk.out x Hrx.out (fun h => q2 (.inl h)) (fun h => q2 (.inr h))
        have k2 : (x.k != 2) = true := bneN (fun h => q2 (.inl h))
        have k3 : (x.k != 3) = true := bneN (fun h => q2 (.inr h))
        have hfin := HSame.out wc hB he.2
        have He := hid he.1
        clear hmc huc q2 he b5
        have x0 := x0
        go_wp2
        go_ret
        exact ⟨ret_i18 He.out.symm, hfin⟩
    · have hne : ((k : Int) != 0) = true := bneN (by omega)
      have he := HTe.out k (H1.out hk)
      have hfin := HSame.out wc hB he.2
      have He := hid he.1
      clear hmc huc hk he H0 H1
      go_wp2
      go_ret
      exact ⟨ret_i18 He.out.symm, hfin⟩
end Go.Proofs.YthbbpfnfnnmdnaaDoor
