/- Xm: layer 19: contracts of stops: New, Take. -/
import Derived.Test.YtnhhbbjkeekneaaGreatDoorM1
import Derived.Test.YtnhhbbjkeekneaaGreatDoorNT
import Derived.Deep.DeepCutAuto
import Derived.Deep.RegionHeld3
namespace Go.Proofs.YtnhhbbjkeekneaaGreatDoor
open Go.RowKit Go.V
theorem bldSt19 (A : Option Addr) (c l : Nat) (n m : Int) : ∀ W : World, (Instr.build 84 #[(0, .agg #[.slice A l c, .slice none 0 0]), (1, .agg #[.int .i64 n, .int .u16 m])]).run Tryz.prog W = .ok (.agg (([.slice A l c, .slice none 0 0, .int .i64 n, .int .u16 m] : List Value) ++ u16s zT19).toArray) W := fun _ => by kernel_rfl
set_option maxRecDepth 100000 in
set_option maxHeartbeats 4000000 in
theorem snew19_any (ks : List (List UInt8)) (V : Vc) (uk ur : Value) (F : Nat → Prop) (w : World) (_hKS : KS w) (hks : KsSm ks) (hk : Rd w F uk (tx ks)) (hV : in64w V.n ∧ V.m < 65536) :
    Calls Tryz.prog 13 #[.agg #[uk, ur], vw V.n V.m] w fun e w' => ∃ v M, e = .returned v ∧ SX w' v M (fun b => F b ∧ b < w.heap.size) ks V w0W ∧ (∀ b, M b → w.heap.size ≤ b) ∧ Below w.heap.size w w' := by
  obtain ⟨n, m⟩ := V
  have hvb := hV.2
  dsimp only at hvb
  obtain ⟨W0, hW0, b3, b4, hB0⟩ := alloc2 w 40 24 [uk, ur] [.int .i64 n, .int .u16 (m : Int)]
  have hk := hk.below hB0
  have hsl : Hid (∀ W, Rd W F uk (tx ks) → Calls Tryz.prog 32 #[.agg #[uk, ur]] W fun e w' => ∃ v' s1, e = .returned (.agg #[v', .slice none 0 0]) ∧ s1 = W.heap.size ∧ Rd w' (fun b => s1 ≤ b) v' (tx (ks.take 16)) ∧ Below W.heap.size W w') := hid (fun W h => (seals18_any ks uk ur F W hks h).mono (fun e w' ⟨v, h1, h2, h3⟩ => ⟨v, _, h1, rfl, h2, h3⟩))
  obtain ⟨Kl, hK⟩ : ∃ Kl, Kl = ks.take 16 := ⟨_, rfl⟩
  rw [← hK] at hsl
  have hs0 := hB0.size
  have hFIN : Hid (∀ (w' : World) (p : Nat) (v8 : Value) (F8 : Nat → Prop), Blk w' p 84 (sC v8 ⟨n, m⟩ zT19) → Rd w' F8 v8 (tx Kl) → (∀ b, F8 b → b ≠ p ∧ b < w'.heap.size ∧ W0.heap.size ≤ b) → W0.heap.size ≤ p → Below W0.heap.size W0 w' →
      ∃ v M, Ending.returned (.pointer (some ⟨p, 0, none⟩)) = .returned v ∧ SX w' v M (fun b => F b ∧ b < w.heap.size) ks ⟨n, m⟩ w0W ∧ (∀ b, M b → w.heap.size ≤ b) ∧ Below w.heap.size w w') := hid (fun w' p v8 F8 hb hr hF hp' hB => by
    have hBe := hB0.trans (hB.mono hs0)
    have hse := hBe.size
    refine ⟨_, fun x => x = p ∨ F8 x, rfl, ⟨fun b hb => by have := hb.2; omega, p, v8, F8, zT19, rfl, ⟨hb, by rw [← hK]; exact hr, WdS.zero, by simp [w0W], hvb, fun x hx => ⟨(hF x hx).1, (hF x hx).2.1⟩⟩, fun x => Iff.rfl⟩, ?_, hBe⟩
    rintro x (rfl | hx)
    · omega
    · have := (hF x hx).2.2
      omega)
  clear hK hks hV
  unfold vw
  go_enter Tryz.func13, Tryz.ntmps13
  go_upto_region 1 with (fail)
  first | rw [← hW0] | (simp only [List.toArray] at hW0 ⊢; rw [← hW0])
  clear hW0
  obtain ⟨g4, hg4⟩ : ∃ g, g = w.heap.size + 1 := ⟨_, rfl⟩
  rw [← hg4] at b4 ⊢
  obtain ⟨g3, hg3⟩ : ∃ g, g = w.heap.size := ⟨_, rfl⟩
  rw [← hg3] at b3 ⊢
  clear hg3 hg4
  have HK : Hid (∀ W, Ch nob W0 W → W.rangeAt g3 0 [uk, ur]) := hid fun W hc => b3.chAt (fun h => h) hc
  have HV : Hid (∀ W, Ch nob W0 W → W.rangeAt g4 0 [.int .i64 n, .int .u16 (m : Int)]) := hid fun W hc => b4.chAt (fun h => h) hc
  have HRk : Hid (∀ W, Ch nob W0 W → Rd W F uk (tx ks)) := hid fun W hc => hk.below hc.below
  clear b3 b4 hk hB0 hs0
  refine wp_region_noPanic ?_
  refine wp_region_held_drew (S := Ch nob W0) (by kernel_rfl) ((Ch.refl _ _).drew) (fun hHeld => ?_)
  refine tkY 0 rfl (yieldsIf_load_mid (by rfl) 40 (.tmp 2) (by rfl) _ (0) (by rfl) _ _ (fun _ hs => HK.out _ hs) Tryz.underlying40 rfl (sizeKs17)) ?_
  refine tkY 2 rfl (yieldsIf_load_mid (by rfl) 24 (.tmp 3) (by rfl) _ (0) (by rfl) _ _ (fun _ hs => HV.out _ hs) Tryz.underlying24 rfl (sizeVw17)) ?_
  refine rdH 1 rfl (fun K hK => ?_)
  go_simp
  refine (hsl.out _ (HRk.out _ hHeld)).mono ?_
  rintro e' w1 ⟨v8, s1, rfl, hs1e, hr8, B1⟩
  obtain ⟨A8, c8, rfl, _, _⟩ := hr8.slShape
  have hs0 : W0.heap.size ≤ s1 := by rw [hs1e]; exact hHeld.size
  replace hr8 := hr8.weak (F' := fun b => s1 ≤ b ∧ b < w1.heap.size) (fun b hb h => ⟨h, hb⟩)
  refine hK.out _ _ (hHeld.belowR B1) (fun hHeld => ?_)
  clear hK K
  try simp only [nP]
  refine tkY 3 rfl (y_bld (by rfl) 84 [(0, .tmp 6), (1, .tmp 7)] (by rfl) [(0, .agg #[.slice A8 Kl.length c8, .slice none 0 0]), (1, .agg #[.int .i64 n, .int .u16 (m : Int)])] (by rfl) (bldSt19 _ _ _ _ _)) ?_
  refine rdH 4 rfl (fun K hK => ?_)
  refine step_box18 84 (.tmp 8) (by rfl) (by rfl) (l := sC (.slice A8 Kl.length c8) ⟨n, m⟩ zT19) (by rfl) ?_
  intro p w9 hp9 lp b9 B9
  have hwp : W0.heap.size ≤ p := Nat.le_trans hHeld.size hp9
  replace hr8 := hr8.below B9
  have hfin := hFIN.out w9 p (.slice A8 Kl.length c8) _ b9 hr8 (fun b h => by have h1 := h.1; have h2 := h.2; have h3 := B9.size; exact ⟨by omega, by omega, by omega⟩) hwp (hHeld.belowR B9).below
  refine hK.out _ _ (hHeld.belowR B9) (fun hHeld => ?_)
  clear hK K
  try simp only [nP]
  refine tkP 5 rfl ?_
  refine wpAnyH_done (by kernel_rfl) ?_ _
  refine NoPanic.normal ?_
  clear hHeld
  go_wp2
  go_ret
  obtain ⟨v0, M0, z1, z2, z3, z4⟩ := hfin
  first | exact ⟨v0, M0, z1, z2, z3, z4⟩ | exact ⟨v0, z1, M0, z2, z3, z4⟩
section
variable {ks : List (List UInt8)} {V : Vc} {W : List Nat} {X : List UInt8}
theorem ts_err {k : Nat} (h : opOf ks V X = .error k) : tsE ks V W X = (k : Int) ∧ tsW ks V W X = W := by
  unfold tsE tsW
  rw [h]
  exact ⟨rfl, rfl⟩
theorem ts_kind {m : Mg} (h : opOf ks V X = .ok m) (h1 : m.k ≠ 4) : tsE ks V W X = 15 ∧ tsW ks V W X = W := by
  unfold tsE tsW
  rw [h]
  exact ⟨if_pos h1, if_pos h1⟩
theorem ts_view {m : Mg} (h : opOf ks V X = .ok m) (h1 : m.k = 4) (h2 : m.v ≠ V.n) : tsE ks V W X = 9 ∧ tsW ks V W X = W := by
  unfold tsE tsW
  rw [h]
  dsimp only
  exact ⟨(if_neg (fun h => h h1)).trans (if_pos h2), (if_neg (fun h => h h1)).trans (if_pos h2)⟩
theorem ts_old {m : Mg} (h : opOf ks V X = .ok m) (h1 : m.k = 4) (h2 : m.v = V.n) (h3 : m.r.toNat < W.getD m.f.toNat 0) : tsE ks V W X = 7 ∧ tsW ks V W X = W := by
  unfold tsE tsW
  rw [h]
  dsimp only
  exact ⟨(if_neg (fun h => h h1)).trans ((if_neg (fun h => h h2)).trans (if_pos (by omega))), (if_neg (fun h => h h1)).trans ((if_neg (fun h => h h2)).trans (if_pos (by omega)))⟩
theorem ts_new {m : Mg} (h : opOf ks V X = .ok m) (h1 : m.k = 4) (h2 : m.v = V.n) (h3 : ¬ m.r.toNat < W.getD m.f.toNat 0) : tsE ks V W X = 0 ∧ tsW ks V W X = W.set m.f.toNat (m.r.toNat + 1) := by
  unfold tsE tsW
  rw [h]
  dsimp only
  exact ⟨(if_neg (fun h => h h1)).trans ((if_neg (fun h => h h2)).trans (if_neg (by omega))), (if_neg (fun h => h h1)).trans ((if_neg (fun h => h h2)).trans (if_neg (by omega)))⟩
end
theorem ret_e19 {a b : Int} (h : a = b) : Ending.returned (.int .i64 a) = .returned (.int .i64 b) := by rw [h]
set_option maxRecDepth 100000 in
set_option maxHeartbeats 16000000 in
theorem stake19_any (v : Value) (M N : Nat → Prop) (ks : List (List UInt8)) (V : Vc) (W : List Nat) (X : List UInt8) (u : Value) (F0 : Nat → Prop) (w : World) (hKS : KS w) (hks : KsSm ks) (h : SX w v M N ks V W) (hu : Rd w F0 u (bys X)) (hX : X.length ≤ 6000) :
    Calls Tryz.prog 15 #[v, u] w fun e w' => e = .returned (.int .i64 (tsE ks V W X)) ∧ ∃ M', SP w M w' v N ks V (tsW ks V W X) M' := by
  obtain ⟨Au, cu, rfl⟩ := hu.shape
  have HSX := hid h
  obtain ⟨hN, p, uk, F, T, rfl, hm, hM⟩ := h
  have HM' := hid hM
  have HN' := hid hN
  obtain ⟨n, m⟩ := V
  have hvb := hm.vb
  dsimp only at hvb
  have hpl := hm.blk.lt
  have Hop : Hid (∀ Y, KS Y → Rd Y F uk (tx (ks.take 16)) → Rd Y F0 (.slice Au X.length cu) (bys X) → Calls Tryz.prog 21 #[.agg #[uk, .slice none 0 0], vw n m, .slice Au X.length cu] Y (Op18 Y (opOf ks ⟨n, m⟩ X))) := hid (fun Y h0 h1 h2 => (openof9_any (ks.take 16) ⟨n, m⟩ X uk (.slice none 0 0) (.slice Au X.length cu) F F0 Y h0 hks.cut h1 h2 (by omega) hvb).mono (fun e w' h => by have := op18 h; rwa [opof_cut] at this))
  unfold vw at Hop
  have HSame : Hid (∀ w', Below w.heap.size w w' → tsW ks ⟨n, m⟩ W X = W → ∃ M', SP w M w' (.pointer (some ⟨p, 0, none⟩)) N ks ⟨n, m⟩ (tsW ks ⟨n, m⟩ W X) M') := hid (fun w' hB e => ⟨M, by rw [e]; exact SP.same HSX.out hB⟩)
  clear hM hN
  have HTe := hid (fun k => @ts_err ks ⟨n, m⟩ W X k)
  have HTk := hid (fun x => @ts_kind ks ⟨n, m⟩ W X x)
  have HTv := hid (fun x => @ts_view ks ⟨n, m⟩ W X x)
  have HTo := hid (fun x => @ts_old ks ⟨n, m⟩ W X x)
  have HTn := hid (fun x => @ts_new ks ⟨n, m⟩ W X x)
  have HOk := hid (fun x => @opofN_ok ks ⟨n, m⟩ X x)
  obtain ⟨r, hr⟩ : ∃ r, r = opOf ks ⟨n, m⟩ X := ⟨_, rfl⟩
  rw [← hr] at Hop HTe HTk HTv HTo HTn HOk
  obtain ⟨E, hE⟩ : ∃ E, E = tsE ks ⟨n, m⟩ W X := ⟨_, rfl⟩
  obtain ⟨W', hW'⟩ : ∃ W', W' = tsW ks ⟨n, m⟩ W X := ⟨_, rfl⟩
  rw [← hE] at HTe HTk HTv HTo HTn
  rw [← hW'] at HTe HTk HTv HTo HTn HSame
  rw [← hE, ← hW']
  clear hr hE hW'
  have HK : Hid (∀ W, Ch nob w W → W.rangeAt p 0 [uk, .slice none 0 0]) := hid fun W hc => sC_k (hm.blk.ch hc (fun h => h))
  have HV : Hid (∀ W, Ch nob w W → W.rangeAt p 2 [.int .i64 n, .int .u16 (m : Int)]) := hid fun W hc => sC_v (hm.blk.ch hc (fun h => h))
  have HKS : Hid (∀ W, Ch nob w W → KS W) := hid fun W hc => hKS.below hc.below
  have HRk : Hid (∀ W, Ch nob w W → Rd W F uk (tx (ks.take 16))) := hid fun W hc => hm.keys.below hc.below
  have HRv : Hid (∀ W, Ch nob w W → Rd W F0 (.slice Au X.length cu) (bys X)) := hid fun W hc => hu.below hc.below
  go_enter Tryz.func15, Tryz.ntmps15
  go_upto_region 3 with (fail)
  go_cut [5, 6] (fun s5 s6 wx => ∃ (g : Nat) (lx : List Value) (x : Mg) (k : Nat), s5 = .pointer (some ⟨g, 0, none⟩) ∧ s6 = .int .i64 (k : Int) ∧ Blk wx g 47 lx ∧ w.heap.size ≤ g ∧ Below w.heap.size w wx ∧ Hid (MF lx x) ∧ Hid (k = 0 → r = .ok x) ∧ Hid (k ≠ 0 → r = .error k))
  case first =>
    refine wp_region_noPanic ?_
    refine wp_region_held_drew (S := Ch nob w) (by kernel_rfl) ((Ch.refl _ _).drew) (fun hHeld => ?_)
    refine tkP 0 rfl ?_
    refine tkP 1 rfl ?_
    refine tkP 2 rfl ?_
    refine tkY 3 rfl (yieldsIf_load_mid (by rfl) 40 (.tmp 13) (by rfl) _ (0) (by rfl) _ _ (fun _ hs => HK.out _ hs) Tryz.underlying40 rfl (sizeKs17)) ?_
    refine tkP 4 rfl ?_
    refine tkP 5 rfl ?_
    refine tkP 6 rfl ?_
    refine tkY 7 rfl (yieldsIf_load_mid (by rfl) 24 (.tmp 17) (by rfl) _ (2) (by rfl) _ _ (fun _ hs => HV.out _ hs) Tryz.underlying24 rfl (sizeVw17)) ?_
    refine tkP 8 rfl ?_
    refine wpAnyH_ready (rs := [9, 13]) (by kernel_rfl) (by simp) ?_
    refine AllReadyH.cons (o := ⟨some 20, _, _, _, _, none⟩) rfl (fun K hK => ?_) ?_
    · go_simp
      refine (Hop.out _ (HKS.out _ hHeld) (HRk.out _ hHeld) (HRv.out _ hHeld)).mono ?_
      rintro e' w9 ⟨x, xA, xB, a1, a2, a3, a4, k, rfl, hxh, h0, h1, hB9⟩
      have hmf : MF (x.l (.slice xA a1 a2) (.slice xB a3 a4)) x := mf_of hxh _ _
      have hl39 := hid (len_mg hxh (.slice xA a1 a2) (.slice xB a3 a4))
      have Hlo := hid (mg_one x xA xB a1 a2 a3 a4)
      obtain ⟨lx, hlx⟩ : ∃ l, l = x.l (.slice xA a1 a2) (.slice xB a3 a4) := ⟨_, rfl⟩
      rw [← hlx] at hmf hl39 Hlo ⊢
      clear hlx
      refine hK.out _ _ (hHeld.belowR hB9) (fun hHeld => ?_)
      clear hK K
      try simp only [nP]
      refine tkP 10 rfl ?_
      refine tkP 11 rfl ?_
      refine tkP 12 rfl ?_
      refine rdH 13 rfl (fun K hK => ?_)
      refine step_new 47 (by rfl) (by rfl) zeroM ?_
      intro g5 w13 hg5 hgl5 hz5 hB13
      have hg5 : w.heap.size ≤ g5 := Nat.le_trans hHeld.size hg5
      refine hK.out _ _ (hHeld.belowR hB13) (fun hHeld => ?_)
      clear hK K
      try simp only [nP]
      refine rdH 14 rfl (fun K hK => ?_)
      refine step_st 47 (.tmp 5) (.tmp 21) (by rfl) (by rfl) (by rfl) (f := 0) (by rfl) (l := lx) (by rfl) hz5 (by rw [hl39.out, len_zM]; omega) (by rw [hl39.out]; exact sizeM) Hlo.out ?_
      intro w14 hz14 hG14
      rw [set_all _ _ (by rw [hl39.out]; exact len_zM)] at hz14
      refine hK.out _ _ (hHeld.grow hG14 (fun k hk => .inr (by injection hk with hk; omega))) (fun hHeld => ?_)
      clear hK K
      try simp only [nP]
      refine tkP 15 rfl ?_
      refine wpAnyH_done (by kernel_rfl) ?_ _
      refine NoPanic.normal ?_
      go_wp2
      go_meet
      exact ⟨g5, lx, x, k, rfl, rfl, hz14, hg5, hHeld.below, hid hmf, hid h0, hid h1⟩
    refine AllReadyH.cons (o := ⟨some 5, .alloc _, _, _, _, none⟩) rfl (fun K hK => ?_) AllReadyH.nil
    refine step_new 47 (by rfl) (by rfl) zeroM ?_
    intro g5 w13 hg5 hgl5 hz5 hB13
    have hg5 : w.heap.size ≤ g5 := Nat.le_trans hHeld.size hg5
    refine hK.out _ _ (hHeld.belowR hB13) (fun hHeld => ?_)
    clear hK K
    try simp only [nP]
    refine rdH 9 rfl (fun K hK => ?_)
    go_simp
    refine (Hop.out _ (HKS.out _ hHeld) (HRk.out _ hHeld) (HRv.out _ hHeld)).mono ?_
    rintro e' w9 ⟨x, xA, xB, a1, a2, a3, a4, k, rfl, hxh, h0, h1, hB9⟩
    have hmf : MF (x.l (.slice xA a1 a2) (.slice xB a3 a4)) x := mf_of hxh _ _
    have hl39 := hid (len_mg hxh (.slice xA a1 a2) (.slice xB a3 a4))
    have Hlo := hid (mg_one x xA xB a1 a2 a3 a4)
    obtain ⟨lx, hlx⟩ : ∃ l, l = x.l (.slice xA a1 a2) (.slice xB a3 a4) := ⟨_, rfl⟩
    rw [← hlx] at hmf hl39 Hlo ⊢
    clear hlx
    have hz5 := hz5.below hB9
    refine hK.out _ _ (hHeld.belowR hB9) (fun hHeld => ?_)
    clear hK K
    try simp only [nP]
    refine tkP 10 rfl ?_
    refine tkP 11 rfl ?_
    refine tkP 12 rfl ?_
    refine rdH 14 rfl (fun K hK => ?_)
    refine step_st 47 (.tmp 5) (.tmp 21) (by rfl) (by rfl) (by rfl) (f := 0) (by rfl) (l := lx) (by rfl) hz5 (by rw [hl39.out, len_zM]; omega) (by rw [hl39.out]; exact sizeM) Hlo.out ?_
    intro w14 hz14 hG14
    rw [set_all _ _ (by rw [hl39.out]; exact len_zM)] at hz14
    refine hK.out _ _ (hHeld.grow hG14 (fun k hk => .inr (by injection hk with hk; omega))) (fun hHeld => ?_)
    clear hK K
    try simp only [nP]
    refine tkP 15 rfl ?_
    refine wpAnyH_done (by kernel_rfl) ?_ _
    refine NoPanic.normal ?_
    go_wp2
    go_meet
    exact ⟨g5, lx, x, k, rfl, rfl, hz14, hg5, hHeld.below, hid hmf, hid h0, hid h1⟩
  case rest =>
    obtain ⟨g5, lx, x, k, rfl, rfl, b5, hg5, hB, HMF, H0, H1⟩ := hcut
    have hmc := hm.below hB
    clear HK HV HKS HRk HRv Hop hKS hu hm
    by_cases hk : k = 0
    · have hrx := H0.out hk
      subst hk
      have Hrx := hid hrx
      have hbd := HOk.out x hrx
      clear hrx H0 H1 HTe HOk
      have x0 := b5.cellAt 0 _ HMF.out.c0
      by_cases q2 : x.k = 4
      · have Q2 := hid q2
        have k4 : (x.k != 4) = false := neNI q2
        clear q2
        obtain ⟨c4, hc4⟩ : ∃ c, (x.v != n) = c := ⟨_, rfl⟩
        have HC4 := hid hc4
        go_upto_region 8 with (fail)
        have HX2 : Hid (∀ W, Ch nob wc W → W.cell? ⟨g5, 2, none⟩ = some (.int .i64 x.v)) := hid fun W hc => (b5.ch hc (fun h => h)).cellAt 2 _ HMF.out.c2
        have HN : Hid (∀ W, Ch nob wc W → W.cell? ⟨p, 2, none⟩ = some (.int .i64 n)) := hid fun W hc => (hmc.blk.ch hc (fun h => h)).cellAt 2 _ rfl
        refine wp_region_noPanic ?_
        refine wp_region_held_drew (S := Ch nob wc) (by kernel_rfl) ((Ch.refl _ _).drew) (fun hHeld => ?_)
        refine tkP 0 rfl ?_
        refine tkF 1 rfl HX2.out ?_
        refine tkP 2 rfl ?_
        refine tkP 3 rfl ?_
        refine tkP 4 rfl ?_
        refine tkP 5 rfl ?_
        refine tkF 6 rfl HN.out ?_
        refine tkP 7 rfl ?_
        refine tkP 8 rfl ?_
        refine wpAnyH_done (by kernel_rfl) ?_ _
        refine NoPanic.normal ?_
        have hB1 := hHeld.below
        obtain ⟨w1, hw1⟩ : ∃ x, x = wc.drew := ⟨_, rfl⟩
        rw [← hw1] at hB1 ⊢
        have b5 := b5.below hB1
        have hmc := hmc.below hB1
        have hB := hB.trans (hB1.mono hB.size)
        clear hHeld hw1 hB1 HX2 HN x0 k4
        try rw [hc4]
        cases c4 with
        | true =>
          have he := HTv.out x Hrx.out Q2.out (fun h => by have := HC4.out; rw [neNI h] at this; cases this)
          have hfin := HSame.out w1 hB he.2
          have He := hid he.1
          clear hmc he hc4 b5
          go_wp2
          go_ret
          exact ⟨ret_e19 He.out.symm, hfin⟩
        | false =>
          have hv : x.v = n := by
            by_cases h : x.v = n
            · exact h
            · have := HC4.out; rw [neNN h] at this; cases this
          have Hv := hid hv
          obtain ⟨a, ha⟩ := Int.eq_ofNat_of_zero_le hbd.2.1
          obtain ⟨rg, hrg⟩ := Int.eq_ofNat_of_zero_le hbd.2.2.2.1
          have ha16 : a < 16 := by have := hbd.2.2.1; omega
          have hr41 : rg < 41 := by have := hbd.2.2.2.2; omega
          obtain ⟨S, hS⟩ : ∃ S, T[rg]? = some S := ⟨_, List.getElem?_eq_getElem (by rw [hmc.wd.len]; exact hr41)⟩
          have hSW := hmc.wd.at_ rg S hS
          have hSl := hSW.1
          have hr41I : (rg : Int) < 41 := by omega
          have hfn : x.f.toNat = a := by omega
          have hrn : x.r.toNat = rg := by omega
          have Hq : Hid (mbit S a = decide (rg < W.getD a 0)) := hid (hSW.2 a ha16)
          have Hc1 : Hid (lx[1]? = some (.int .i64 (a : Int))) := hid (by rw [HMF.out.c1, ha])
          have Hc3 : Hid (lx[3]? = some (.int .i64 (rg : Int))) := hid (by rw [HMF.out.c3, hrg])
          have HTo2 := hid (HTo.out x Hrx.out Q2.out Hv.out)
          have HTn2 := hid (HTn.out x Hrx.out Q2.out Hv.out)
          rw [hfn, hrn] at HTo2 HTn2
          have HX3 : Hid (∀ W, Ch nob w1 W → W.cell? ⟨g5, 3, none⟩ = some (.int .i64 (rg : Int))) := hid fun W hc => (b5.ch hc (fun h => h)).cellAt 3 _ Hc3.out
          have HX1 : Hid (∀ W, Ch nob w1 W → W.cell? ⟨g5, 1, none⟩ = some (.int .i64 (a : Int))) := hid fun W hc => (b5.ch hc (fun h => h)).cellAt 1 _ Hc1.out
          have HS : Hid (∀ W, Ch nob w1 W → W.cell? ⟨p, 4 + rg, none⟩ = some (.int .u16 (S : Int))) := hid fun W hc => (hmc.blk.ch hc (fun h => h)).cellAt (4 + rg) _ (sC_at hS)
          obtain ⟨q, hq⟩ : ∃ q, q = mbit S a := ⟨_, rfl⟩
          rw [← hq] at Hq
          have Hqq := hid hq
          clear hv hfn hrn hbd ha hrg hS hSW hc4 HTo HTn HTv HTk HC4 hq
          go_upto_region 10 with (fail)
          refine wp_region_noPanic ?_
          refine wp_region_held_drew (S := Ch nob w1) (by kernel_rfl) ((Ch.refl _ _).drew) (fun hHeld => ?_)
          refine tkP 0 rfl ?_
          refine tkP 1 rfl ?_
          refine tkF 2 rfl HX3.out ?_
          refine tkP 3 rfl ?_
          refine tkP 4 rfl ?_
          refine tkP 5 rfl ?_
          refine tkF 6 rfl HS.out ?_
          refine tkP 7 rfl ?_
          refine tkF 8 rfl HX1.out ?_
          refine rdH 9 rfl (fun K hK => ?_)
          go_simp
          refine (isin19_any S a _ hSl ha16).mono ?_
          rintro e' y1 ⟨rfl, hE1⟩
          refine hK.out _ _ (hHeld.belowR hE1) (fun hHeld => ?_)
          clear hK K
          try simp only [nP]
          refine tkP 10 rfl ?_
          refine wpAnyH_done (by kernel_rfl) ?_ _
          refine NoPanic.normal ?_
          have hB1 := hHeld.below
          have b5 := b5.below hB1
          have hmc := hmc.below hB1
          have hB := hB.trans (hB1.mono hB.size)
          clear hHeld hB1 HX3 HX1 HS hE1
          rw [← Hqq.out]
          cases q with
          | true =>
            have he := HTo2.out (of_decide_eq_true Hq.out.symm)
            have hfin := HSame.out y1 hB he.2
            have He := hid he.1
            clear hmc he b5
            go_wp2
            go_ret
            exact ⟨ret_e19 He.out.symm, hfin⟩
          | false =>
            have hle := of_decide_eq_false Hq.out.symm
            have he := HTn2.out hle
            have He := hid he.1
            have HW := hid he.2
            have c3 := b5.cellAt 3 _ Hc3.out
            have hwr : IntKind.i64.wrap ((rg : Int) + 1) = (rg : Int) + 1 := IntWalk.i64_in _ (by omega)
            have HFIN : Hid (∀ (w' : World) (T' : List Nat), WdJ W T' a (rg + 1) → Blk w' p 84 (sC uk ⟨n, m⟩ T') → Ch (only p) y1 w' → ∃ M', SP w M w' (.pointer (some ⟨p, 0, none⟩)) N ks ⟨n, m⟩ W' M') := hid (fun w' T' hJ hb hC => by
              have hs1 := hC.size
              have hmf := hmc.f
              refine ⟨M, ⟨fun b hb => ?_, p, uk, F, T', rfl, ⟨hb, ?_, ?_, ?_, hvb, fun x hx => ⟨(hmf x hx).1, ?_⟩⟩, HM'.out⟩, fun _ h => .inl h, ?_⟩
              · have := HN'.out b hb; have := hB.size; omega
              · exact hmc.keys.keep (fun b hb hF => ⟨hF, hC.block b hb (fun h => (hmf b hF).1 h)⟩)
              · rw [HW.out]; exact hJ.done hmc.len ha16 (by omega)
              · rw [HW.out, List.length_set]; exact hmc.len
              · have := (hmf x hx).2; omega
              · exact ((Ch.refl M w).belowR hB).trans (hC.weaken (fun b _ h => by have h : b = p := h; subst h; exact (HM'.out b).2 (.inl rfl))))
            have hJ0 := hmc.wd.j0 a
            have hbp := hmc.blk
            have hp5 : g5 ≠ p := by omega
            clear hle he HTo2 HTn2 Hq Hqq hmc
            go_wp2
            clear c3
            go_loopw [54] (fun iv wr => ∃ (j : Nat) (T' : List Nat), j ≤ rg + 1 ∧ iv = .int .i64 (j : Int) ∧ Hid (WdJ W T' a j) ∧ Blk wr p 84 (sC uk ⟨n, m⟩ T') ∧ Ch (only p) y1 wr) (fun iv _ => rg + 1 - (intOf iv).toNat)
            case atStart => exact ⟨0, T, by omega, rfl, hid hJ0, hbp, Ch.refl _ _⟩
            case round =>
              clear hbp hJ0
              obtain ⟨j, T', hj, rfl, hJ, bp, hCh⟩ := hrel
              have b5 := b5.ch hCh (fun h => hp5 h)
              by_cases hlt : j < rg + 1
              · have hI : (j : Int) < (rg : Int) + 1 := by omega
                have hj41 : (j : Int) < 41 := by omega
                obtain ⟨Sj, hSj⟩ : ∃ Sj, T'[j]? = some Sj := ⟨_, List.getElem?_eq_getElem (by rw [hJ.out.len]; omega)⟩
                have hor := or_bit17 Sj a (hJ.out.at_ j Sj hSj).1 ha16
                have HTl := hid hJ.out.len
                have HTn := hid (hJ.out.put ha16 hSj)
                have HcS := hid (sC_at (uk := uk) (V := ⟨n, m⟩) hSj)
                have ha16I : (a : Int) < 16 := by omega
                obtain ⟨S', hS'⟩ : ∃ S', S' = putB Sj a := ⟨_, rfl⟩
                rw [← hS'] at hor HTn
                clear hS' hJ hSj
                go_upto_region 15 with (fail)
                have hBd : Below wr.heap.size wr wr.drew := (Below.refl _ _).drew
                have bp := bp.below hBd
                have b5 := b5.below hBd
                have hCh := hCh.belowR hBd
                have c1 := b5.cellAt 1 _ Hc1.out
                have cS := bp.cellAt (4 + j) _ HcS.out
                obtain ⟨wd, hwd⟩ : ∃ x, x = wr.drew := ⟨_, rfl⟩
                rw [← hwd] at bp b5 hCh c1 cS
                refine wp_region_noPanic ?_
                refine wp_region_any (by kernel_rfl) ?_
                change wpAny _ _ _ _ _ _ _ (World.drew _)
                rw [← hwd]
                clear hwd hBd
                refine wpAny_take (i := 0) (oi := ⟨some 57, _, _, _, _, none⟩) (v := ?_) rfl (by kernel_rfl) (by kernel_rfl) (by kernel_rfl) (fun _ _ _ h => h) (Or.inl ⟨by rfl, ?_⟩) ?_
                rotate_left
                · intro w; go_simp; try with_reducible rfl
                try simp only [nP]
                refine wpAny_take (i := 1) (oi := ⟨some 58, _, _, _, _, none⟩) (v := ?_) rfl (by kernel_rfl) (by kernel_rfl) (by kernel_rfl) (fun _ _ _ h => h) (Or.inl ⟨by rfl, ?_⟩) ?_
                rotate_left
                · intro w; go_simp; try with_reducible rfl
                try simp only [nP]
                refine wpAny_take (i := 2) (oi := ⟨some 59, _, _, _, _, none⟩) (v := ?_) rfl (by kernel_rfl) (by kernel_rfl) (by kernel_rfl) (fun _ _ _ h => h) (Or.inl ⟨by rfl, ?_⟩) ?_
                rotate_left
                · intro w; go_simp; try with_reducible rfl
                try simp only [nP]
                refine wpAny_take (i := 3) (oi := ⟨some 60, _, _, _, _, none⟩) (v := ?_) rfl (by kernel_rfl) (by kernel_rfl) (by kernel_rfl) (fun _ _ _ h => h) (Or.inl ⟨by rfl, ?_⟩) ?_
                rotate_left
                · intro w; go_simp; try with_reducible rfl
                try simp only [nP]
                refine wpAny_take (i := 4) (oi := ⟨some 61, _, _, _, _, none⟩) (v := ?_) rfl (by kernel_rfl) (by kernel_rfl) (by kernel_rfl) (fun _ _ _ h => h) (Or.inl ⟨by rfl, ?_⟩) ?_
                rotate_left
                · intro w; go_simp; try with_reducible rfl
                try simp only [nP]
                refine wpAny_take (i := 6) (oi := ⟨some 63, _, _, _, _, none⟩) (v := ?_) rfl (by kernel_rfl) (by kernel_rfl) (by kernel_rfl) (fun _ _ _ h => h) (Or.inl ⟨by rfl, ?_⟩) ?_
                rotate_left
                · intro w; go_simp; try with_reducible rfl
                try simp only [nP]
                refine wpAny_take (i := 10) (oi := ⟨some 67, _, _, _, _, none⟩) (v := ?_) rfl (by kernel_rfl) (by kernel_rfl) (by kernel_rfl) (fun _ _ _ h => h) (Or.inl ⟨by rfl, ?_⟩) ?_
                rotate_left
                · intro w; go_simp; try with_reducible rfl
                try simp only [nP]
                refine wpAny_take (i := 11) (oi := ⟨some 68, _, _, _, _, none⟩) (v := ?_) rfl (by kernel_rfl) (by kernel_rfl) (by kernel_rfl) (fun _ _ _ h => h) (Or.inl ⟨by rfl, ?_⟩) ?_
                rotate_left
                · intro w; go_simp; try with_reducible rfl
                try simp only [nP]
                refine wpAny_ready (rs := [5, 7]) (by kernel_rfl) (by simp) ?_
                refine AllReady.cons (o := ⟨some 62, .load 22 (.tmp 61), _, _, _, none⟩) rfl (fun K hK => ?_) ?_
                · refine step_ld1 22 (.tmp 61) (by rfl) (by rfl) (by rfl) cS Tryz.isAgg22 ?_
                  refine hK _ _ ?_
                  clear hK K
                  try simp only [nP]
                  refine wpAny_ready (rs := [7]) (by kernel_rfl) (by simp) ?_
                  refine AllReady.cons (o := ⟨some 64, .load 3 (.tmp 63), _, _, _, none⟩) rfl (fun K hK => ?_) AllReady.nil
                  refine step_ld1 3 (.tmp 63) (by rfl) (by rfl) (by rfl) c1 Tryz.isAgg3 ?_
                  refine hK _ _ ?_
                  clear hK K
                  try simp only [nP]
                  refine wpAny_take (i := 8) (oi := ⟨some 65, _, _, _, _, none⟩) (v := ?_) rfl (by kernel_rfl) (by kernel_rfl) (by kernel_rfl) (fun _ _ _ h => h) (Or.inl ⟨by rfl, ?_⟩) ?_
                  rotate_left
                  · intro w; go_simp; try with_reducible rfl
                  try simp only [nP]
                  refine wpAny_take (i := 9) (oi := ⟨some 66, _, _, _, _, none⟩) (v := ?_) rfl (by kernel_rfl) (by kernel_rfl) (by kernel_rfl) (fun _ _ _ h => h) (Or.inl ⟨by rfl, ?_⟩) ?_
                  rotate_left
                  · intro w; go_simp; try with_reducible rfl
                  try simp only [nP]
                  refine wpAny_take (i := 12) (oi := ⟨some 69, _, _, _, _, none⟩) (v := ?_) rfl (by kernel_rfl) (by kernel_rfl) (by kernel_rfl) (fun _ _ _ h => h) (Or.inl ⟨by rfl, ?_⟩) ?_
                  rotate_left
                  · intro w; go_simp; try with_reducible rfl
                  try simp only [nP]
                  refine wpAny_ready (rs := [13]) (by kernel_rfl) (by simp) ?_
                  refine AllReady.cons (o := ⟨none, _, _, _, _, none⟩) rfl (fun K hK => ?_) AllReady.nil
                  refine step_st1 22 (.tmp 69) (.tmp 66) (by rfl) (by rfl) (by rfl) (b := p) (f := 4 + j) (by rfl) (v := .int .u16 (S' : Int)) (by rfl) bp (by rw [len_sC _ _ HTl.out]; omega) sizeU16 rfl rfl ?_
                  intro w13 k13 hG13
                  refine hK _ _ ?_
                  clear hK K
                  try simp only [nP]
                  refine wpAny_done (by kernel_rfl) ?_ _
                  refine NoPanic.normal ?_
                  rw [sC_set] at k13
                  have hCh := hCh.grow hG13 (fun k hk => by injection hk with hk; exact .inl hk.symm)
                  clear hG13 bp c1 cS
                  go_wp2
                  go_roundw
                  case rel => exact ⟨j + 1, _, by omega, by go_num, HTn, k13, hCh⟩
                  case measure => first | (simp [intOf]; done) | (simp [intOf]; omega)
                refine AllReady.cons (o := ⟨some 64, .load 3 (.tmp 63), _, _, _, none⟩) rfl (fun K hK => ?_) AllReady.nil
                refine step_ld1 3 (.tmp 63) (by rfl) (by rfl) (by rfl) c1 Tryz.isAgg3 ?_
                refine hK _ _ ?_
                clear hK K
                try simp only [nP]
                refine wpAny_take (i := 8) (oi := ⟨some 65, _, _, _, _, none⟩) (v := ?_) rfl (by kernel_rfl) (by kernel_rfl) (by kernel_rfl) (fun _ _ _ h => h) (Or.inl ⟨by rfl, ?_⟩) ?_
                rotate_left
                · intro w; go_simp; try with_reducible rfl
                try simp only [nP]
                refine wpAny_ready (rs := [5]) (by kernel_rfl) (by simp) ?_
                refine AllReady.cons (o := ⟨some 62, .load 22 (.tmp 61), _, _, _, none⟩) rfl (fun K hK => ?_) AllReady.nil
                refine step_ld1 22 (.tmp 61) (by rfl) (by rfl) (by rfl) cS Tryz.isAgg22 ?_
                refine hK _ _ ?_
                clear hK K
                try simp only [nP]
                refine wpAny_take (i := 9) (oi := ⟨some 66, _, _, _, _, none⟩) (v := ?_) rfl (by kernel_rfl) (by kernel_rfl) (by kernel_rfl) (fun _ _ _ h => h) (Or.inl ⟨by rfl, ?_⟩) ?_
                rotate_left
                · intro w; go_simp; try with_reducible rfl
                try simp only [nP]
                refine wpAny_take (i := 12) (oi := ⟨some 69, _, _, _, _, none⟩) (v := ?_) rfl (by kernel_rfl) (by kernel_rfl) (by kernel_rfl) (fun _ _ _ h => h) (Or.inl ⟨by rfl, ?_⟩) ?_
                rotate_left
                · intro w; go_simp; try with_reducible rfl
                try simp only [nP]
                refine wpAny_ready (rs := [13]) (by kernel_rfl) (by simp) ?_
                refine AllReady.cons (o := ⟨none, _, _, _, _, none⟩) rfl (fun K hK => ?_) AllReady.nil
                refine step_st1 22 (.tmp 69) (.tmp 66) (by rfl) (by rfl) (by rfl) (b := p) (f := 4 + j) (by rfl) (v := .int .u16 (S' : Int)) (by rfl) bp (by rw [len_sC _ _ HTl.out]; omega) sizeU16 rfl rfl ?_
                intro w13 k13 hG13
                refine hK _ _ ?_
                clear hK K
                try simp only [nP]
                refine wpAny_done (by kernel_rfl) ?_ _
                refine NoPanic.normal ?_
                rw [sC_set] at k13
                have hCh := hCh.grow hG13 (fun k hk => by injection hk with hk; exact .inl hk.symm)
                clear hG13 bp c1 cS
                go_wp2
                go_roundw
                case rel => exact ⟨j + 1, _, by omega, by go_num, HTn, k13, hCh⟩
                case measure => first | (simp [intOf]; done) | (simp [intOf]; omega)
              · have hI : ¬ (j : Int) < (rg : Int) + 1 := by omega
                have hje : j = rg + 1 := by omega
                have hfin := HFIN.out wr T' (by rw [← hje]; exact hJ.out) bp hCh
                clear hje hJ bp b5
                go_wp2
                go_ret
                exact ⟨ret_e19 He.out.symm, hfin⟩
      · have he := HTk.out x Hrx.out q2
        have k4 : (x.k != 4) = true := neNN q2
        have hfin := HSame.out wc hB he.2
        have He := hid he.1
        clear hmc q2 he b5
        have x0 := x0
        go_wp2
        go_ret
        exact ⟨ret_e19 He.out.symm, hfin⟩
    · have hne : ((k : Int) != 0) = true := neNN (by omega)
      have he := HTe.out k (H1.out hk)
      have hfin := HSame.out wc hB he.2
      have He := hid he.1
      clear hmc hk he H0 H1
      go_wp2
      go_ret
      exact ⟨ret_e19 He.out.symm, hfin⟩
end Go.Proofs.YtnhhbbjkeekneaaGreatDoor
