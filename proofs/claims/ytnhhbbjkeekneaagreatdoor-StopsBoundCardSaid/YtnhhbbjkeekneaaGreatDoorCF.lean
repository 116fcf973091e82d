/- CF: several texts in one (CE CF). -/
import Derived.Test.YtnhhbbjkeekneaaGreatDoorCD
import Derived.Test.YtnhhbbjkeekneaaGreatDoorCB
import Derived.Test.YtnhhbbjkeekneaaGreatDoorOT
/- CE: layer 17: contract of certs.voters. -/
namespace Go.Proofs.YtnhhbbjkeekneaaGreatDoor
open Go.RowKit Go.V
/-- slices in an array, one a member: of each the part that f tells, or nothing -/
structure FsX (w : World) (H : Nat → Prop) (us : List Value) (f : Nat → Option (List UInt8)) : Prop where
  len : us.length = 16
  at_ : ∀ i, i < 16 → ∃ u, us[i]? = some u ∧ Rd w H u (bys ((f i).getD []))
theorem FsX.one {w : World} {H : Nat → Prop} {us : List Value} {f : Nat → Option (List UInt8)} (h : FsX w H us f) : ∀ v ∈ us, v.oneCell' = true := by
  intro v hv
  obtain ⟨i, hi, rfl⟩ := List.getElem_of_mem hv
  obtain ⟨u, hu, hr⟩ := h.at_ i (by have := h.len; omega)
  rw [List.getElem?_eq_getElem hi] at hu
  injection hu with hu
  rw [hu]
  obtain ⟨A, c, rfl⟩ := hr.shape
  rfl
theorem FsX.keep {w w' : World} {H H' : Nat → Prop} {us : List Value} {f : Nat → Option (List UInt8)} (h : FsX w H us f) (hF : ∀ b, b < w.heap.size → H b → H' b ∧ w'.heap[b]? = w.heap[b]?) : FsX w' H' us f := ⟨h.len, fun i hi => by obtain ⟨u, hu, hr⟩ := h.at_ i hi; exact ⟨u, hu, hr.keep hF⟩⟩
theorem FsX.weak {w : World} {H H' : Nat → Prop} {us : List Value} {f : Nat → Option (List UInt8)} (h : FsX w H us f) (hF : ∀ b, H b → H' b) : FsX w H' us f := h.keep (fun b _ hb => ⟨hF b hb, rfl⟩)
theorem FsX.congr {w : World} {H : Nat → Prop} {us : List Value} {f g : Nat → Option (List UInt8)} (h : FsX w H us f) (e : ∀ i, i < 16 → g i = f i) : FsX w H us g := ⟨h.len, fun i hi => by rw [e i hi]; exact h.at_ i hi⟩
theorem FsX.put {w : World} {H : Nat → Prop} {us : List Value} {f g : Nat → Option (List UInt8)} {a : Nat} {u : Value} {X : List UInt8} (h : FsX w H us f) (ha : a < 16) (hu : Rd w H u (bys X)) (e : ∀ i, g i = if i = a then some X else f i) : FsX w H (us.set a u) g := ⟨by rw [List.length_set]; exact h.len, fun i hi => by
  rw [e]
  by_cases hia : i = a
  · subst hia
    rw [if_pos rfl]
    exact ⟨u, by rw [List.getElem?_set_self (by rw [h.len]; exact ha)], hu⟩
  · rw [if_neg hia]
    obtain ⟨v, hv, hr⟩ := h.at_ i hi
    exact ⟨v, by rw [List.getElem?_set_ne (fun h => hia h.symm)]; exact hv, hr⟩⟩
theorem ret_tc {P : Program} {fn : Func} {R : Ending → World → Prop} {a : Act} {w : World} {p q : Tmp} {ty : TypeId} (hf : fn.results = #[.tmp p, .cell q ty]) {u : Value} (hp : a.tmps.getD p undef = u) {b f : Nat} (hq : a.tmps.getD q undef = .pointer (some ⟨b, f, none⟩)) {l : List Value} (hr : w.rangeAt b f l)
    {d : TypeDesc} (hu : P.underlying ty = some d) (hd : d.isRow = true) (hi : (P.info? ty).map (·.size) = some l.length) (hdf : a.defers = []) (h : R (.returned (.tuple #[u, .agg l.toArray])) w) : bodyPost P fn R .ret a w := by
  refine bodyPost_ret (v := .tuple #[u, .agg l.toArray]) ?_ hdf h
  have hp' : a.tmps[p]?.getD undef = u := by simpa using hp
  have hq' : a.tmps[q]?.getD undef = .pointer (some ⟨b, f, none⟩) := by simpa using hq
  simp [results, hf, hp', hq', asAddr, run_loadVar_mid w b f ty l d hr hu hd hi]
def zF17 : List Value := List.replicate 16 (.slice none 0 0)
theorem FsX.zero (w : World) (H : Nat → Prop) (ks : List (List UInt8)) (V : Vc) (q : Qc) : FsX w H zF17 (fstC ks V q []) := ⟨by simp [zF17], fun i hi => ⟨.slice none 0 0, by unfold zF17; rw [List.getElem?_replicate, if_pos hi], Rd.nil w H⟩⟩
theorem zero16F : (Tryz.prog.info? 141).map (·.zero) = some (some (.agg zF17.toArray)) := by kernel_rfl
theorem size16F : (Tryz.prog.info? 141).map (·.size) = some 16 := by kernel_rfl
theorem sizeSl : (Tryz.prog.info? 33).map (·.size) = some 1 := by kernel_rfl
/-- what voters tells -/
def VtP (w : World) (H : Nat → Prop) (ks : List (List UInt8)) (V : Vc) (q : Qc) (P : List (List UInt8)) (e : Ending) (w' : World) : Prop := ∃ (S : Nat) (us : List Value), e = .returned (.tuple #[.int .u16 (S : Int), .agg us.toArray]) ∧ SetW S (fun i => P.any (isC ks V q i)) ∧ FsX w' H us (fstC ks V q P) ∧ Below w.heap.size w w'
set_option maxRecDepth 100000 in
set_option maxHeartbeats 16000000 in
theorem voters17_any (ks : List (List UInt8)) (V : Vc) (P : List (List UInt8)) (m : Mg) (uk ur pv ub up : Value) (F H : Nat → Prop) (w : World) (hKS : KS w) (hks : KsSm ks) (hk : Rd w F uk (tx ks)) (hp : Rd w H pv (tx P)) (hP : P.length ≤ 1000) (hPl : ∀ X ∈ P, X.length ≤ 1000000) (hV : V.m < 65536) (hm : m.h.length = 32) :
    Calls Tryz.prog 91 #[.agg #[uk, ur], vw V.n V.m, .agg (m.l ub up).toArray, pv] w (VtP w H ks V (qOf m) P) := by
  obtain ⟨n, M⟩ := V
  dsimp only at hV
  obtain ⟨A, c, rfl, hcA, hcm⟩ := hp.slShape
  obtain ⟨W0, hW0, b4, b5, b6, hB⟩ := alloc3 w 40 24 47 [uk, ur] [.int .i64 n, .int .u16 (M : Int)] (m.l ub up)
  have Hm3 : Hid ((m.l ub up)[3]? = some (.int .i64 m.r)) := hid rfl
  have Hl39 := hid (len_mg hm ub up)
  have hfd := hid (fun gk gv gm X u F' G Y h0 h1 h2 h3 h4 => find17_any ks ⟨n, M⟩ X m gk gv gm uk ur u ub up F' G Y h0 hks h1 h2 h3 hV hm h4)
  have hk := hk.weak (F' := fun b => b < w.heap.size) (fun b hb _ => hb)
  have hp := hp.weak (F' := fun b => H b ∧ b < w.heap.size) (fun b hb hF => ⟨hF, hb⟩)
  obtain ⟨Hx, hHx⟩ : ∃ Hx : Nat → Prop, Hx = fun b => H b ∧ b < w.heap.size := ⟨_, rfl⟩
  rw [← hHx] at hp
  have hHH : ∀ b, Hx b → H b := fun b h => by rw [hHx] at h; exact h.1
  have hHw : ∀ b, Hx b → b < w.heap.size := fun b h => by rw [hHx] at h; exact h.2
  clear hHx
  have hkl := hKS.lt
  have hk := hk.below hB
  have hp := hp.below hB
  have hKS := hKS.below hB
  have hb9 : Below W0.heap.size W0 (W0.alloc (.cells zF17.toArray 141)) := (Below.refl _ _).alloc (Nat.le_refl _) _
  have b9 := Blk.new' W0 141 zF17
  obtain ⟨lm, hlm⟩ : ∃ l, l = m.l ub up := ⟨_, rfl⟩
  rw [← hlm] at hW0 b6 Hl39 hfd Hm3 ⊢
  have Hqr : Hid ((qOf m).r = m.r) := hid rfl
  obtain ⟨q, hq⟩ : ∃ q, q = qOf m := ⟨_, rfl⟩
  rw [← hq] at hfd Hqr ⊢
  clear hq hlm hm
  have hs0 : W0.heap.size = w.heap.size + 1 + 1 + 1 := by rw [hW0]; simp
  have hVt : Hid (∀ e W, VtP w H ks ⟨n, M⟩ q P e W ↔ ∃ (S : Nat) (us : List Value), e = .returned (.tuple #[.int .u16 (S : Int), .agg us.toArray]) ∧ SetW S (fun i => P.any (isC ks ⟨n, M⟩ q i)) ∧ FsX W H us (fstC ks ⟨n, M⟩ q P) ∧ Below w.heap.size w W) := hid (fun _ _ => Iff.rfl)
  unfold vw
  go_enter Tryz.func91, Tryz.ntmps91
  go_wp2_with (first | (refine wp_new 141 rfl rfl zero16F ?_; refine wp_stop ?_))
  first | rw [← hW0] | (simp only [List.toArray] at hW0 ⊢; rw [← hW0])
  clear hW0
  obtain ⟨w0, hw0⟩ : ∃ x, x = W0.alloc (.cells zF17.toArray 141) := ⟨_, rfl⟩
  rw [← hw0] at b9 hb9 ⊢
  clear hw0
  have b4 := b4.below hb9
  have b5 := b5.below hb9
  have b6 := b6.below hb9
  have hk := hk.below hb9
  have hp := hp.below hb9
  have hKS := hKS.below hb9
  have hB := hB.trans (hb9.mono hB.size)
  rw [hs0] at b9
  obtain ⟨g9, hg9⟩ : ∃ g, g = w.heap.size + 1 + 1 + 1 := ⟨_, rfl⟩
  rw [← hg9] at b9 ⊢
  obtain ⟨g6, hg6⟩ : ∃ g, g = w.heap.size + 1 + 1 := ⟨_, rfl⟩
  rw [← hg6] at b6 ⊢
  obtain ⟨g5, hg5⟩ : ∃ g, g = w.heap.size + 1 := ⟨_, rfl⟩
  rw [← hg5] at b5 ⊢
  obtain ⟨g4, hg4⟩ : ∃ g, g = w.heap.size := ⟨_, rfl⟩
  rw [← hg4] at b4 ⊢
  have hw9 : w.heap.size < g9 := by omega
  have h69 : g6 < g9 := by omega
  have hH9 : ∀ b, Hx b → g9 ≠ b := fun b h => by have := hHw b h; omega
  clear hg4 hg5 hg6 hg9 hs0 hb9
  refine wp_go ?_
  go_wp2_with (first | refine wp_ld 40 (.tmp 4) rfl rfl rfl b4.whole Tryz.underlying40 rfl sizeKs17 ?_ | refine wp_ld 24 (.tmp 5) rfl rfl rfl b5.whole Tryz.underlying24 rfl sizeVw17 ?_ | refine wp_ld 47 (.tmp 6) rfl rfl rfl b6.whole Tryz.underlying47 rfl (by rw [Hl39.out]; exact sizeM) ?_)
  refine (finder17_any lm uk ur n M _).mono ?_
  rintro e w1 ⟨gk, gv, gm, rfl, hD, hgw, hB1⟩
  have hl9 := b9.lt
  have b6 := b6.below hB1
  have b9 := b9.below hB1
  have hKS := hKS.below hB1
  have hk := hk.below hB1
  have hp := hp.below hB1
  have hBw := hB.trans (hB1.mono hB.size)
  have hgk : gk ≠ g9 ∧ gv ≠ g9 ∧ gm ≠ g9 := by have h1 := hgw.1; have h2 := hgw.2.1; have h3 := hgw.2.2; exact ⟨by omega, by omega, by omega⟩
  clear hgw hB1 b4 b5 hB
  go_wp2
  go_loopw [8, 21] (fun sv iv wr => ∃ (j S : Nat) (us : List Value), j ≤ P.length ∧ iv = .int .i64 j ∧ sv = .int .u16 (S : Int) ∧ Hid (SetW S (fun i => (P.take j).any (isC ks ⟨n, M⟩ q i))) ∧ FsX wr Hx us (fstC ks ⟨n, M⟩ q (P.take j)) ∧ Blk wr g9 141 us ∧ Ch (only g9) w1 wr) (fun _ j _ => P.length - (intOf j).toNat)
  case atStart => exact ⟨0, 0, zF17, by omega, rfl, rfl, SetW.zero.congr (fun i _ => rfl), FsX.zero _ _ _ _ _, b9, Ch.refl _ _⟩
  case round =>
    clear b9
    obtain ⟨j, S, us, hj, rfl, rfl, hS, hus, b9, hCh⟩ := hrel
    have b6 := b6.ch hCh (by intro (h : g6 = g9); omega)
    have hD := hD.keep (w' := wr) (by rintro b (rfl | rfl | rfl); exact hCh.block _ hD.k.lt hgk.1; exact hCh.block _ hD.v.lt hgk.2.1; exact hCh.block _ hD.m.lt hgk.2.2)
    have hKS := hKS.keep (hCh.block _ hKS.lt (fun h => by have h : (0 : Nat) = g9 := h; omega))
    have hk := hk.ch hCh (fun b hb (h : b = g9) => by omega)
    have hp := hp.ch hCh (fun b hb (h : b = g9) => by have := hHw b hb; omega)
    have hszr := hCh.size
    by_cases hjl : j < P.length
    · have hJ : (j : Int) < (P.length : Int) := by omega
      obtain ⟨X, hX⟩ : ∃ X, P[j]? = some X := ⟨_, List.getElem?_eq_getElem hjl⟩
      obtain ⟨gp, offp, u, hAp, _, hcu, hu⟩ := Rd.elem hp j (bys X) (by rw [List.getElem?_map, hX]; rfl)
      subst hAp
      obtain ⟨Au, cu, rfl⟩ := hu.shape
      have hXl := hPl X (List.mem_of_getElem? hX)
      have Htk : Hid (P.take (j + 1) = P.take j ++ [X]) := hid (by rw [List.take_add_one, hX]; rfl)
      clear hX
      go_wp2_with (fail)
      refine (hfd.out gk gv gm X _ _ _ wr hKS hk hu hXl hD).mono ?_
      rintro e w2 ⟨lx, rfl, hl39x, hox, hmx, hB2⟩
      have Hlx := hid hl39x
      have Hox := hid hox
      have Hmx := hid hmx
      have b6 := b6.below hB2
      have b9 := b9.below hB2
      have hus := hus.keep (H' := Hx) (fun b hb hF => ⟨hF, hB2.block b hb⟩)
      have hu := hu.below hB2
      have hCh := hCh.belowR hB2
      clear hl39x hox hmx hB2 hKS hk hp hD hcu hfd
      go_wp2_with (first | (refine wp_newst 47 13 (.tmp 29) rfl rfl rfl rfl rfl rfl zeroM (l := lx) rfl (by rw [Hlx.out]; exact len_zM) (by rw [Hlx.out]; exact sizeM) Hox.out (by simp) ?_; intro w3 b13 hB3 hs3; refine wp_stop ?_))
      have b6 := b6.below hB3
      have b9 := b9.below hB3
      have hus := hus.keep (H' := Hx) (fun b hb hF => ⟨hF, hB3.block b hb⟩)
      have hu := hu.below hB3
      have hCh := hCh.belowR hB3
      obtain ⟨g13, hg13⟩ : ∃ g, g = w2.heap.size := ⟨_, rfl⟩
      rw [← hg13] at b13 ⊢
      clear hs3 hB3 hg13
      have m3 := b6.cellAt 3 _ Hm3.out
      obtain ⟨o, ho⟩ : ∃ o, o = fndC ks ⟨n, M⟩ q X := ⟨_, rfl⟩
      rw [← ho] at Hmx ⊢
      refine wp_go ?_
      cases o with
      | none =>
        have Hn := hid (is_none ho.symm)
        clear ho Hmx
        go_wp2
        go_roundw
        case rel => exact ⟨j + 1, S, us, by omega, by go_num, rfl, by rw [Htk.out]; exact set_same hS (fun i _ h => by rw [Hn.out] at h; cases h), by rw [Htk.out]; exact hus.congr (fun i hi => fst_same (fun i _ h => by rw [Hn.out] at h; cases h) i hi), b9, hCh⟩
        case measure => simp [intOf]; omega
      | some x =>
        obtain ⟨hx1, hx3⟩ := Hmx.out x rfl
        have hbd := fnd_bd ho.symm
        have c1 := b13.cellAt 1 _ hx1
        have c3 := b13.cellAt 3 _ hx3
        by_cases hr : x.r = m.r
        · have hI := is_some ho.symm (hr.trans Hqr.out.symm)
          have r3 := bneI hr
          obtain ⟨a, ha⟩ := Int.eq_ofNat_of_zero_le hbd.1
          rw [ha] at c1
          have ha16 : a < 16 := by have := hbd.2.1; omega
          have HI : Hid (∀ i, isC ks ⟨n, M⟩ q i X = decide (i = a)) := hid (fun i => by rw [hI, ha]; rfl)
          have hbit := bit_eq S a hS.1
          have hSa := hS.2 a ha16
          clear hr ho Hmx hI ha hx1 hx3 hbd
          cases hb : mbit S a with
          | true =>
            have Hv : Hid ((P.take j).any (isC ks ⟨n, M⟩ q a) = true) := hid (hSa.symm.trans hb)
            rw [hb] at hbit
            clear hb hSa
            go_wp2
            go_roundw
            case rel => exact ⟨j + 1, S, us, by omega, by go_num, rfl, by rw [Htk.out]; exact set_same hS (fun i _ h => by rw [HI.out, decide_eq_true_eq] at h; subst h; exact Hv.out), by rw [Htk.out]; exact hus.congr (fun i hi => fst_same (fun i _ h => by rw [HI.out, decide_eq_true_eq] at h; subst h; exact Hv.out) i hi), b9, hCh⟩
            case measure => simp [intOf]; omega
          | false =>
            have Hv : Hid ((P.take j).any (isC ks ⟨n, M⟩ q a) = false) := hid (hSa.symm.trans hb)
            rw [hb] at hbit
            clear hb hSa
            have hor := or_bit17 S a hS.1 ha16
            have hpl := putB_lt (i := a) hS.1 ha16
            have hsn := hid (set_new hS ha16 HI.out)
            obtain ⟨S', hS'⟩ : ∃ S', S' = putB S a := ⟨_, rfl⟩
            rw [← hS'] at hor hsn hpl
            clear hS'
            go_wp2_with (first | (refine wp_st1 33 (.tmp 56) (.tmp 55) rfl rfl rfl (b := g9) (f := a) rfl rfl b9 (by rw [hus.len]; exact ha16) sizeSl rfl rfl ?_; intro w4 k9 G9; refine wp_stop ?_))
            have hu := hu.keep (F' := Hx) (fun b hb hF => ⟨hF, G9.block b hb (by intro h; injection h with h; exact hH9 b hF h.symm)⟩)
            have hus := hus.keep (H' := Hx) (fun b hb hF => ⟨hF, G9.block b hb (by intro h; injection h with h; exact hH9 b hF h.symm)⟩)
            have hCh := hCh.grow G9 (fun k hk => by injection hk with hk; exact .inl hk.symm)
            refine wp_go ?_
            go_wp2
            go_roundw
            case rel => exact ⟨j + 1, S', us.set a (.slice Au X.length cu), by omega, by go_num, rfl, by rw [Htk.out]; exact hsn.out, by rw [Htk.out]; exact hus.put ha16 hu (fun i => fst_new Hv.out HI.out i), k9, hCh⟩
            case measure => simp [intOf]; omega
        · have hI := is_other ho.symm (fun h => hr (h.trans Hqr.out))
          have Hn := hid hI
          have r3 := bneN hr
          clear hr ho Hmx hI hx1 hx3 hbd
          go_wp2
          go_roundw
          case rel => exact ⟨j + 1, S, us, by omega, by go_num, rfl, by rw [Htk.out]; exact set_same hS (fun i _ h => by rw [Hn.out] at h; cases h), by rw [Htk.out]; exact hus.congr (fun i hi => fst_same (fun i _ h => by rw [Hn.out] at h; cases h) i hi), b9, hCh⟩
          case measure => simp [intOf]; omega
    · have hJ : ¬ (j : Int) < (P.length : Int) := by omega
      have htk : P.take j = P := List.take_of_length_le (by omega)
      rw [htk] at hS hus
      have hone := hus.one
      clear htk
      go_upto_region 10 with (fail)
      have hBd : Below wr.heap.size wr wr.drew := (Below.refl _ _).drew
      have b9 := b9.below hBd
      have hCh := hCh.belowR hBd
      have hus := hus.keep (H' := Hx) (fun b hb hF => ⟨hF, hBd.block b hb⟩)
      obtain ⟨wd, hwd⟩ : ∃ x, x = wr.drew := ⟨_, rfl⟩
      rw [← hwd] at b9 hus hCh
      refine wp_region_noPanic ?_
      refine wp_region_any (by kernel_rfl) ?_
      change wpAny _ _ _ _ _ _ _ (World.drew _)
      rw [← hwd]
      clear hwd hBd
      refine wpAny_take (i := 0) (oi := ⟨some 58, _, _, _, _, none⟩) (v := ?_) rfl (by kernel_rfl) (by kernel_rfl) (by kernel_rfl) (fun _ _ _ h => h) (Or.inl ⟨by rfl, ?_⟩) ?_
      rotate_left
      · intro w; go_simp; try with_reducible rfl
      try simp only [Act.put, List.setIfInBounds_toArray, List.set_cons_zero, List.set_cons_succ]
      refine wpAny_take (i := 2) (oi := ⟨some 8, _, _, _, _, none⟩) (v := ?_) rfl (by kernel_rfl) (by kernel_rfl) (by kernel_rfl) (fun _ _ _ h => h) (Or.inl ⟨by rfl, ?_⟩) ?_
      rotate_left
      · intro w; go_simp; try with_reducible rfl
      try simp only [Act.put, List.setIfInBounds_toArray, List.set_cons_zero, List.set_cons_succ]
      refine wpAny_ready (rs := [1]) (by kernel_rfl) (by simp) ?_
      refine AllReady.cons (o := ⟨some 59, .load 141 (.tmp 9), _, _, _, none⟩) rfl (fun K hK => ?_) AllReady.nil
      refine step_ld 141 (.tmp 9) (by rfl) (by rfl) (by rfl) b9.whole Tryz.underlying141 rfl (by rw [hus.len]; exact size16F) ?_
      refine hK _ _ ?_
      clear hK K
      try simp only [Act.put, List.setIfInBounds_toArray, List.set_cons_zero, List.set_cons_succ]
      refine wpAny_ready (rs := [3]) (by kernel_rfl) (by simp) ?_
      refine AllReady.cons (o := ⟨none, _, _, _, _, none⟩) rfl (fun K hK => ?_) AllReady.nil
      refine step_st 141 (.tmp 9) (.tmp 59) (by rfl) (by rfl) (by rfl) (f := 0) (by rfl) (l := us) (by rfl) b9 (by omega) (by rw [hus.len]; exact size16F) hone ?_
      intro w10 k9 hG10
      refine hK _ _ ?_
      clear hK K
      try simp only [Act.put, List.setIfInBounds_toArray, List.set_cons_zero, List.set_cons_succ]
      refine wpAny_done (by kernel_rfl) ?_ _
      refine NoPanic.normal ?_
      rw [set_all _ _ rfl] at k9
      have hCh := hCh.grow hG10 (fun k hk => by injection hk with hk; exact .inl hk.symm)
      have hus := hus.keep (H' := Hx) (fun b hb hF => ⟨hF, hG10.block b hb (by intro h; injection h with h; exact hH9 b hF h.symm)⟩)
      clear hG10 b9
      go_wp2
      refine ret_tc rfl rfl rfl k9.whole Tryz.underlying141 rfl (by rw [hus.len]; exact size16F) rfl ?_
      exact ⟨S, us, rfl, hS, hus.weak hHH, Ch.below_of hBw hCh (fun k hk => by have : k = g9 := hk; omega) hBw.size⟩
end Go.Proofs.YtnhhbbjkeekneaaGreatDoor
/- CF: layer 17: contracts of certs.Who and certs.Pick. -/
namespace Go.Proofs.YtnhhbbjkeekneaaGreatDoor
open Go.RowKit Go.V
structure PsBg (P : List (List UInt8)) : Prop where
  n : P.length ≤ 1000
  t : ∀ X ∈ P, X.length ≤ 1000000
end Go.Proofs.YtnhhbbjkeekneaaGreatDoor
