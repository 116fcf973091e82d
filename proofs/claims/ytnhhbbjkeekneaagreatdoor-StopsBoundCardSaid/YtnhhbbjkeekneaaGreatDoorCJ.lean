/- CJ: layer 17: contract of certs.Decided. -/
import Derived.Test.YtnhhbbjkeekneaaGreatDoorCH
import Derived.Test.YtnhhbbjkeekneaaGreatDoorCB
import Derived.Test.YtnhhbbjkeekneaaGreatDoorVE
import Derived.Test.YtnhhbbjkeekneaaGreatDoorXa
namespace Go.Proofs.YtnhhbbjkeekneaaGreatDoor
open Go.RowKit Go.V
def zT17 : List Nat := List.replicate 41 0
theorem zero41 : (Tryz.prog.info? 82).map (·.zero) = some (some (.agg (u16s zT17).toArray)) := by kernel_rfl
set_option maxRecDepth 100000 in
theorem bldB17 (k n s : Int) (h : List UInt8) (hh : h.length = 32) : ∀ W : World, (Instr.build 47 [(0, .int .i64 k), (2, .int .i64 n), (4, .int .i64 s), (5, .agg (bvs h).toArray)].toArray).run Tryz.prog W = .ok (.agg (aL k n 0 s h).toArray) W := by
  match h, hh with
  | [a0, a1, a2, a3, a4, a5, a6, a7, a8, a9, a10, a11, a12, a13, a14, a15, a16, a17, a18, a19, a20, a21, a22, a23, a24, a25, a26, a27, a28, a29, a30, a31], _ => intro W; kernel_rfl
/-- of each regency the set of those that vote in it -/
structure SetsX (ks : List (List UInt8)) (V : Vc) (k v s : Int) (h : List UInt8) (P : List (List UInt8)) (T : List Nat) : Prop where
  len : T.length = 41
  at_ : ∀ (r S : Nat), T[r]? = some S → SetW S (fun i => P.any (isC ks V ⟨k, v, (r : Int), s, h⟩ i))
theorem fnd_reg (ks : List (List UInt8)) (V : Vc) (k v r r' s : Int) (h X : List UInt8) : fndC ks V ⟨k, v, r, s, h⟩ X = fndC ks V ⟨k, v, r', s, h⟩ X := rfl
theorem SetsX.zero (ks : List (List UInt8)) (V : Vc) (k v s : Int) (h : List UInt8) : SetsX ks V k v s h [] zT17 := ⟨by simp [zT17], fun r S hS => by
  have h0 : S = 0 := by unfold zT17 at hS; rw [List.getElem?_replicate] at hS; split at hS; injection hS with hS; exact hS.symm; cases hS
  subst h0
  exact SetW.zero.congr (fun i _ => rfl)⟩
theorem SetsX.same {ks : List (List UInt8)} {V : Vc} {k v s r0 : Int} {h X : List UInt8} {P : List (List UInt8)} {T : List Nat} (hT : SetsX ks V k v s h P T) (hn : fndC ks V ⟨k, v, r0, s, h⟩ X = none) : SetsX ks V k v s h (P ++ [X]) T := ⟨hT.len, fun r S hS => set_same (hT.at_ r S hS) (fun i _ hc => by rw [is_none ((fnd_reg ks V k v r r0 s h X).trans hn)] at hc; cases hc)⟩
theorem SetsX.put {ks : List (List UInt8)} {V : Vc} {k v s r0 : Int} {h X : List UInt8} {P : List (List UInt8)} {T : List Nat} {x : Mg} {r a S : Nat} (hT : SetsX ks V k v s h P T) (hf : fndC ks V ⟨k, v, r0, s, h⟩ X = some x) (hr : x.r = (r : Int)) (ha : x.f = (a : Int)) (ha16 : a < 16) (hS : T[r]? = some S) : SetsX ks V k v s h (P ++ [X]) (T.set r (putB S a)) := ⟨by rw [List.length_set]; exact hT.len, fun r' S' hS' => by
  have hf' := (fnd_reg ks V k v (r' : Int) r0 s h X).trans hf
  by_cases he : r' = r
  · subst he
    rw [List.getElem?_set_self (List.getElem?_eq_some_iff.1 hS).1] at hS'
    injection hS' with hS'
    subst hS'
    refine set_new (hT.at_ r' S hS) ha16 (fun i => ?_)
    rw [is_some hf' hr i, ha]
    rfl
  · rw [List.getElem?_set_ne (fun h => he h.symm)] at hS'
    refine set_same (hT.at_ r' S' hS') (fun i _ hc => ?_)
    rw [is_other hf' (by rw [hr]; intro hh; have hh : (r : Int) = (r' : Int) := hh; exact he (by omega))] at hc
    cases hc⟩
set_option maxRecDepth 100000 in
set_option maxHeartbeats 16000000 in
theorem cdec17_big (ks : List (List UInt8)) (V : Vc) (P : List (List UInt8)) (s : Int) (h : List UInt8) (uk ur pv : Value) (F H : Nat → Prop) (w : World) (hKS : KS w) (hks : KsSm ks) (hk : Rd w F uk (tx ks)) (hp : Rd w H pv (tx P)) (hP : PsBg P) (hV : in64w V.n ∧ V.m < 65536) (_hs : in64w s) (hh : h.length = 32) :
    Calls Tryz.prog 30 #[.agg #[uk, ur], vw V.n V.m, .int .i64 s, .agg (bvs h).toArray, pv] w fun e w' => e = .returned (.tuple #[.int .i64 (decC ks V s h P).1, .int .i64 (decC ks V s h P).2]) ∧ Below w.heap.size w w' := by
  obtain ⟨n, M⟩ := V
  have hV := hV.2
  dsimp only at hV
  obtain ⟨A, c, rfl, hcA, hcm⟩ := hp.slShape
  have hl32 : (bvs h).length = 32 := by rw [len_bvs]; exact hh
  obtain ⟨W0, hW0, b4, b5, b6, hB⟩ := alloc3 w 40 24 32 [uk, ur] [.int .i64 n, .int .u16 (M : Int)] (bvs h)
  have hmp := hid (fun Y => mayp17_any n M P A c Y hV (by have := hP.n; omega))
  have hiq := hid (fun S Y hS => isq17_any n M S Y hV hS)
  have hbl := bldB17 3 n s h hh
  have Lm := hid (len_aL 3 n 0 s h hh)
  have hfd := hid (fun gk gv gm X u F' G Y h0 h1 h2 h3 h4 => find17_any ks ⟨n, M⟩ X (aM 3 n 0 s h) gk gv gm uk ur u (.slice none 0 0) (.slice none 0 0) F' G Y h0 hks h1 h2 h3 hV hh h4)
  have hk := hk.weak (F' := fun b => b < w.heap.size) (fun b hb _ => hb)
  have hp := hp.weak (F' := fun b => b < w.heap.size) (fun b hb _ => hb)
  have hkl := hKS.lt
  have hKS := hKS.below hB
  have hk := hk.below hB
  have hp := hp.below hB
  have hPl := hid hP.t
  have hP16 : P.length ≤ 1000 := hP.n
  have Hno := hid (fun hx => dec_no (ks := ks) (n := n) (M := M) (s := s) (h := h) (P := P) hx)
  have Hat := hid (fun r hx hr he hn => dec_at (ks := ks) (n := n) (M := M) (s := s) (h := h) (P := P) (r := r) hx hr he hn)
  have Hnn := hid (fun hn => dec_none (ks := ks) (n := n) (M := M) (s := s) (h := h) (P := P) hn)
  have Hok : Hid (okC ⟨n, M⟩ P = (rgt n M && decide (P.length ≤ 16))) := hid rfl
  obtain ⟨Z, hZ⟩ : ∃ Z, Z = decC ks ⟨n, M⟩ s h P := ⟨_, rfl⟩
  rw [← hZ] at Hno Hat Hnn ⊢
  obtain ⟨ok, hok⟩ : ∃ x, x = okC ⟨n, M⟩ P := ⟨_, rfl⟩
  rw [← hok] at Hok hmp
  have Hen : Hid (∀ (r S : Nat), SetW S (fun i => P.any (isC ks ⟨n, M⟩ ⟨3, n, (r : Int), s, h⟩ i)) → szM S = (whoC ks ⟨n, M⟩ ⟨3, n, (r : Int), s, h⟩ P).length) := hid (fun r S hS => set_sz hS)
  have hqq : qOf (aM 3 n 0 s h) = ⟨3, n, 0, s, h⟩ := rfl
  rw [hqq] at hfd
  have hmL : (aM 3 n 0 s h).l (.slice none 0 0) (.slice none 0 0) = aL 3 n 0 s h := rfl
  rw [hmL] at hfd
  obtain ⟨lm, hlm⟩ : ∃ l, l = aL 3 n 0 s h := ⟨_, rfl⟩
  rw [← hlm] at hbl Lm hfd
  obtain ⟨lh, hlh⟩ : ∃ l, l = bvs h := ⟨_, rfl⟩
  rw [← hlh] at hW0 b6 hbl hl32 ⊢
  have Hl32 := hid hl32
  have Hbl := hid hbl
  clear hZ hok hlm hlh hl32 hP hh hbl hqq hmL
  unfold vw at hmp hiq ⊢
  go_enter Tryz.func30, Tryz.ntmps30
  go_upto_region 1 with (fail)
  first | rw [← hW0] | (simp only [List.toArray] at hW0 ⊢; rw [← hW0])
  clear hW0
  obtain ⟨g6, hg6⟩ : ∃ g, g = w.heap.size + 1 + 1 := ⟨_, rfl⟩
  rw [← hg6] at b6 ⊢
  obtain ⟨g5, hg5⟩ : ∃ g, g = w.heap.size + 1 := ⟨_, rfl⟩
  rw [← hg5] at b5 ⊢
  obtain ⟨g4, hg4⟩ : ∃ g, g = w.heap.size := ⟨_, rfl⟩
  rw [← hg4] at b4 ⊢
  clear hg4 hg5 hg6
  go_wp2_with (refine wp_ld 24 (.tmp 6) rfl rfl rfl b5.whole Tryz.underlying24 rfl sizeVw17 ?_)
  refine (hmp.out _).mono ?_
  rintro e w1 ⟨rfl, hB1⟩
  have b4 := b4.below hB1
  have b5 := b5.below hB1
  have b6 := b6.below hB1
  have hKS := hKS.below hB1
  have hk := hk.below hB1
  have hp := hp.below hB1
  have hB := hB.trans (hB1.mono hB.size)
  clear hB1 hmp
  have Hok2 : Hid (ok = true ↔ rgt n M = true ∧ P.length ≤ 16) := hid (by rw [Hok.out, Bool.and_eq_true, decide_eq_true_eq])
  obtain ⟨b, hb⟩ : ∃ b, ok = b := ⟨_, rfl⟩
  rw [hb]
  have Hb := hid hb
  clear hb Hok
  cases b with
  | false =>
    have Hz := hid (Hno.out (fun hx => by have := Hok2.out.2 hx; rw [Hb.out] at this; cases this))
    clear Hok2 Hen
    go_wp2
    go_ret2
    exact ⟨by rw [Hz.out]; rfl, hB⟩
  | true =>
    have Hx := hid (Hok2.out.1 Hb.out)
    have c0 := b5.cellAt 0 _ rfl
    clear Hok2 Hb Hno
    go_wp2_with (first | refine wp_ld 40 (.tmp 5) rfl rfl rfl b4.whole Tryz.underlying40 rfl sizeKs17 ?_ | refine wp_ld 24 (.tmp 6) rfl rfl rfl b5.whole Tryz.underlying24 rfl sizeVw17 ?_ | refine wp_ld 32 (.tmp 8) rfl rfl rfl b6.whole Tryz.underlying32 rfl (by rw [Hl32.out]; exact size25) ?_ | refine wp_bld 47 [(0, .const (.int .i64 3)), (2, .tmp 27), (4, .tmp 28), (5, .tmp 29)] rfl rfl [(0, .int .i64 3), (2, .int .i64 n), (4, .int .i64 s), (5, .agg lh.toArray)] rfl Hbl.out ?_)
    refine (finder17_any lm uk ur n M _).mono ?_
    rintro e w2 ⟨gk, gv, gm, rfl, hD, hgw, hB2⟩
    have hl6 := b6.lt
    have b5 := b5.below hB2
    have hKS := hKS.below hB2
    have hk := hk.below hB2
    have hp := hp.below hB2
    have hwl := hB.size
    have hB := hB.trans (hB2.mono hB.size)
    have hsz2 := hB2.size
    have hlk := hD.k.lt
    have hlv := hD.v.lt
    have hlg := hD.m.lt
    have hl5 := b5.lt
    have b13 := Blk.new' w2 82 (u16s zT17)
    have hB3 : Below w2.heap.size w2 (w2.alloc (.cells (u16s zT17).toArray 82)) := (Below.refl _ _).alloc (Nat.le_refl _) _
    clear hgw hB2 b4 b6 c0 hl6
    go_wp2_with (first | (refine wp_new 82 rfl rfl zero41 ?_; refine wp_stop ?_))
    obtain ⟨w3a, hw3⟩ : ∃ x, x = w2.alloc (.cells (u16s zT17).toArray 82) := ⟨_, rfl⟩
    rw [← hw3] at b13 hB3 ⊢
    have hD := hD.below hB3
    have b5 := b5.below hB3
    have hKS := hKS.below hB3
    have hk := hk.below hB3
    have hp := hp.below hB3
    have hB := hB.trans (hB3.mono hB.size)
    obtain ⟨g13, hg13⟩ : ∃ g, g = w2.heap.size := ⟨_, rfl⟩
    have hg5 : g5 ≠ g13 := by omega
    have hgk : gk ≠ g13 ∧ gv ≠ g13 ∧ gm ≠ g13 := ⟨by omega, by omega, by omega⟩
    have hw13 : w.heap.size ≤ g13 := by omega
    rw [← hg13] at b13 ⊢
    clear hw3 hg13 hB3 hlk hlv hlg hl5 hsz2 hwl
    refine wp_go ?_
    go_wp2
    go_loopw [34] (fun iv wr => ∃ (j : Nat) (T : List Nat), j ≤ P.length ∧ iv = .int .i64 j ∧ SetsX ks ⟨n, M⟩ 3 n s h (P.take j) T ∧ Blk wr g13 82 (u16s T) ∧ Ch (only g13) w3a wr) (fun j _ => P.length - (intOf j).toNat)
    case atStart => exact ⟨0, zT17, by omega, rfl, SetsX.zero _ _ _ _ _ _, b13, Ch.refl _ _⟩
    case round =>
      clear b13
      obtain ⟨j, T, hj, rfl, hT, b13, hCh⟩ := hrel
      by_cases hjl : j < P.length
      · have hJ : (j : Int) < (P.length : Int) := by omega
        have hD := hD.keep (w' := wr) (by rintro b (rfl | rfl | rfl); exact hCh.block _ hD.k.lt hgk.1; exact hCh.block _ hD.v.lt hgk.2.1; exact hCh.block _ hD.m.lt hgk.2.2)
        have hKS := hKS.keep (hCh.block _ hKS.lt (fun h => by have h : (0 : Nat) = g13 := h; omega))
        have hk := hk.ch hCh (fun b hb (h : b = g13) => by omega)
        have hp := hp.ch hCh (fun b hb (h : b = g13) => by omega)
        obtain ⟨X, hX⟩ : ∃ X, P[j]? = some X := ⟨_, List.getElem?_eq_getElem hjl⟩
        obtain ⟨gp, offp, u, hAp, _, hcu, hu⟩ := Rd.elem hp j (bys X) (by rw [List.getElem?_map, hX]; rfl)
        subst hAp
        obtain ⟨Au, cu, rfl⟩ := hu.shape
        have hXl := hPl.out X (List.mem_of_getElem? hX)
        have Htk : Hid (P.take (j + 1) = P.take j ++ [X]) := hid (by rw [List.take_add_one, hX]; rfl)
        clear hX
        go_wp2_with (fail)
        refine (hfd.out gk gv gm X _ _ _ wr hKS hk hu (by omega) hD).mono ?_
        rintro e w3 ⟨lx, rfl, hl39x, hox, hmx, hB2⟩
        have Hlx := hid hl39x
        have Hox := hid hox
        have Hmx := hid hmx
        have b13 := b13.below hB2
        have hCh := hCh.belowR hB2
        clear hl39x hox hmx hB2 hKS hk hp hD hcu hfd hu
        go_wp2_with (first | (refine wp_newst 47 16 (.tmp 42) rfl rfl rfl rfl rfl rfl zeroM (l := lx) rfl (by rw [Hlx.out]; exact len_zM) (by rw [Hlx.out]; exact sizeM) Hox.out (by simp) ?_; intro w4 b16 hB3 hs3; refine wp_stop ?_))
        have b13 := b13.below hB3
        have hCh := hCh.belowR hB3
        obtain ⟨g16, hg16⟩ : ∃ g, g = w3.heap.size := ⟨_, rfl⟩
        rw [← hg16] at b16 ⊢
        clear hs3 hB3 hg16
        obtain ⟨o, ho⟩ : ∃ o, o = fndC ks ⟨n, M⟩ ⟨3, n, 0, s, h⟩ X := ⟨_, rfl⟩
        rw [← ho] at Hmx ⊢
        obtain ⟨w3, hw3⟩ : ∃ x, x = w4 := ⟨_, rfl⟩
        rw [← hw3] at b13 b16 hCh ⊢
        clear hw3
        refine wp_go ?_
        cases o with
        | none =>
          have HTn := hid (hT.same ho.symm)
          clear ho Hmx
          go_wp2
          go_roundw
          case rel => exact ⟨j + 1, T, by omega, by go_num, by rw [Htk.out]; exact HTn.out, b13, hCh⟩
          case measure => simp [intOf]; omega
        | some x =>
          obtain ⟨hx1, hx3⟩ := Hmx.out x rfl
          have hbd := fnd_bd ho.symm
          obtain ⟨a, ha⟩ := Int.eq_ofNat_of_zero_le hbd.1
          obtain ⟨r, hr⟩ := Int.eq_ofNat_of_zero_le hbd.2.2.1
          have ha16 : a < 16 := by have := hbd.2.1; omega
          have hr41 : r < 41 := by have := hbd.2.2.2; omega
          obtain ⟨S, hS⟩ : ∃ S, T[r]? = some S := ⟨_, List.getElem?_eq_getElem (by rw [hT.len]; exact hr41)⟩
          have hor := or_bit17 S a (hT.at_ r S hS).1 ha16
          have HTn := hid (hT.put ho.symm hr ha ha16 hS)
          have HTl := hid hT.len
          have HTr := hid (u16s_at hS)
          rw [ha] at hx1
          rw [hr] at hx3
          have Hx1 := hid hx1
          have Hx3 := hid hx3
          have hr41I : (r : Int) < 41 := by omega
          have ha16I : (a : Int) < 16 := by omega
          obtain ⟨S', hS'⟩ : ∃ S', S' = putB S a := ⟨_, rfl⟩
          rw [← hS'] at hor HTn
          clear hS' ho Hmx ha hr hbd hS hx1 hx3 hT
          go_upto_region 10 with (fail)
          have hBd : Below w3.heap.size w3 w3.drew := (Below.refl _ _).drew
          have b13 := b13.below hBd
          have b16 := b16.below hBd
          have hCh := hCh.belowR hBd
          obtain ⟨wd, hwd⟩ : ∃ x, x = w3.drew := ⟨_, rfl⟩
          rw [← hwd] at b13 b16 hCh
          have c1 := b16.cellAt 1 _ Hx1.out
          have c3 := b16.cellAt 3 _ Hx3.out
          have cS := b13.cellAt r _ HTr.out
          refine wp_region_noPanic ?_
          refine wp_region_any (by kernel_rfl) ?_
          change wpAny _ _ _ _ _ _ _ (World.drew _)
          rw [← hwd]
          clear hwd hBd
          refine wpAny_take (i := 0) (oi := ⟨some 45, _, _, _, _, none⟩) (v := ?_) rfl (by kernel_rfl) (by kernel_rfl) (by kernel_rfl) (fun _ _ _ h => h) (Or.inl ⟨by rfl, ?_⟩) ?_
          rotate_left
          · intro w; go_simp; try with_reducible rfl
          try simp only [Act.put, List.setIfInBounds_toArray, List.set_cons_zero, List.set_cons_succ]
          refine wpAny_take (i := 4) (oi := ⟨some 49, _, _, _, _, none⟩) (v := ?_) rfl (by kernel_rfl) (by kernel_rfl) (by kernel_rfl) (fun _ _ _ h => h) (Or.inl ⟨by rfl, ?_⟩) ?_
          rotate_left
          · intro w; go_simp; try with_reducible rfl
          try simp only [Act.put, List.setIfInBounds_toArray, List.set_cons_zero, List.set_cons_succ]
          refine wpAny_ready (rs := [1, 5]) (by kernel_rfl) (by simp) ?_
          refine AllReady.cons (o := ⟨some 46, .load 3 (.tmp 45), _, _, _, none⟩) rfl (fun K hK => ?_) ?_
          · refine step_ld1 3 (.tmp 45) (by rfl) (by rfl) (by rfl) c3 Tryz.isAgg3 ?_
            refine hK _ _ ?_
            clear hK K
            try simp only [Act.put, List.setIfInBounds_toArray, List.set_cons_zero, List.set_cons_succ]
            refine wpAny_take (i := 2) (oi := ⟨some 47, _, _, _, _, none⟩) (v := ?_) rfl (by kernel_rfl) (by kernel_rfl) (by kernel_rfl) (fun _ _ _ h => h) (Or.inl ⟨by rfl, ?_⟩) ?_
            rotate_left
            · intro w; go_simp; try with_reducible rfl
            try simp only [Act.put, List.setIfInBounds_toArray, List.set_cons_zero, List.set_cons_succ]
            refine wpAny_ready (rs := [3, 5]) (by kernel_rfl) (by simp) ?_
            refine AllReady.cons (o := ⟨some 48, .load 22 (.tmp 47), _, _, _, none⟩) rfl (fun K hK => ?_) ?_
            · refine step_ld1 22 (.tmp 47) (by rfl) (by rfl) (by rfl) cS Tryz.isAgg22 ?_
              refine hK _ _ ?_
              clear hK K
              try simp only [Act.put, List.setIfInBounds_toArray, List.set_cons_zero, List.set_cons_succ]
              refine wpAny_ready (rs := [5]) (by kernel_rfl) (by simp) ?_
              refine AllReady.cons (o := ⟨some 50, .load 3 (.tmp 49), _, _, _, none⟩) rfl (fun K hK => ?_) AllReady.nil
              refine step_ld1 3 (.tmp 49) (by rfl) (by rfl) (by rfl) c1 Tryz.isAgg3 ?_
              refine hK _ _ ?_
              clear hK K
              try simp only [Act.put, List.setIfInBounds_toArray, List.set_cons_zero, List.set_cons_succ]
              refine wpAny_take (i := 6) (oi := ⟨some 51, _, _, _, _, none⟩) (v := ?_) rfl (by kernel_rfl) (by kernel_rfl) (by kernel_rfl) (fun _ _ _ h => h) (Or.inl ⟨by rfl, ?_⟩) ?_
              rotate_left
              · intro w; go_simp; try with_reducible rfl
              try simp only [Act.put, List.setIfInBounds_toArray, List.set_cons_zero, List.set_cons_succ]
              refine wpAny_take (i := 7) (oi := ⟨some 52, _, _, _, _, none⟩) (v := ?_) rfl (by kernel_rfl) (by kernel_rfl) (by kernel_rfl) (fun _ _ _ h => h) (Or.inl ⟨by rfl, ?_⟩) ?_
              rotate_left
              · intro w; go_simp; try with_reducible rfl
              try simp only [Act.put, List.setIfInBounds_toArray, List.set_cons_zero, List.set_cons_succ]
              refine wpAny_take (i := 8) (oi := ⟨some 53, _, _, _, _, none⟩) (v := ?_) rfl (by kernel_rfl) (by kernel_rfl) (by kernel_rfl) (fun _ _ _ h => h) (Or.inl ⟨by rfl, ?_⟩) ?_
              rotate_left
              · intro w; go_simp; try with_reducible rfl
              try simp only [Act.put, List.setIfInBounds_toArray, List.set_cons_zero, List.set_cons_succ]
              refine wpAny_ready (rs := [9]) (by kernel_rfl) (by simp) ?_
              refine AllReady.cons (o := ⟨none, _, _, _, _, none⟩) rfl (fun K hK => ?_) AllReady.nil
              refine step_st1 22 (.tmp 53) (.tmp 52) (by rfl) (by rfl) (by rfl) (b := g13) (f := r) (by rfl) (v := .int .u16 (S' : Int)) (by rfl) b13 (by rw [len_u16s, HTl.out]; exact hr41) sizeU16 rfl rfl ?_
              intro w10 k13 hG10
              refine hK _ _ ?_
              clear hK K
              try simp only [Act.put, List.setIfInBounds_toArray, List.set_cons_zero, List.set_cons_succ]
              refine wpAny_done (by kernel_rfl) ?_ _
              refine NoPanic.normal ?_
              rw [set_u16s] at k13
              have hCh := hCh.grow hG10 (fun k hk => by injection hk with hk; exact .inl hk.symm)
              clear hG10 b13 c1 c3 cS
              go_wp2
              go_roundw
              case rel => exact ⟨j + 1, _, by omega, by go_num, by rw [Htk.out]; exact HTn.out, k13, hCh⟩
              case measure => simp [intOf]; omega
            refine AllReady.cons (o := ⟨some 50, .load 3 (.tmp 49), _, _, _, none⟩) rfl (fun K hK => ?_) AllReady.nil
            refine step_ld1 3 (.tmp 49) (by rfl) (by rfl) (by rfl) c1 Tryz.isAgg3 ?_
            refine hK _ _ ?_
            clear hK K
            try simp only [Act.put, List.setIfInBounds_toArray, List.set_cons_zero, List.set_cons_succ]
            refine wpAny_take (i := 6) (oi := ⟨some 51, _, _, _, _, none⟩) (v := ?_) rfl (by kernel_rfl) (by kernel_rfl) (by kernel_rfl) (fun _ _ _ h => h) (Or.inl ⟨by rfl, ?_⟩) ?_
            rotate_left
            · intro w; go_simp; try with_reducible rfl
            try simp only [Act.put, List.setIfInBounds_toArray, List.set_cons_zero, List.set_cons_succ]
            refine wpAny_ready (rs := [3]) (by kernel_rfl) (by simp) ?_
            refine AllReady.cons (o := ⟨some 48, .load 22 (.tmp 47), _, _, _, none⟩) rfl (fun K hK => ?_) AllReady.nil
            refine step_ld1 22 (.tmp 47) (by rfl) (by rfl) (by rfl) cS Tryz.isAgg22 ?_
            refine hK _ _ ?_
            clear hK K
            try simp only [Act.put, List.setIfInBounds_toArray, List.set_cons_zero, List.set_cons_succ]
            refine wpAny_take (i := 7) (oi := ⟨some 52, _, _, _, _, none⟩) (v := ?_) rfl (by kernel_rfl) (by kernel_rfl) (by kernel_rfl) (fun _ _ _ h => h) (Or.inl ⟨by rfl, ?_⟩) ?_
            rotate_left
            · intro w; go_simp; try with_reducible rfl
            try simp only [Act.put, List.setIfInBounds_toArray, List.set_cons_zero, List.set_cons_succ]
            refine wpAny_take (i := 8) (oi := ⟨some 53, _, _, _, _, none⟩) (v := ?_) rfl (by kernel_rfl) (by kernel_rfl) (by kernel_rfl) (fun _ _ _ h => h) (Or.inl ⟨by rfl, ?_⟩) ?_
            rotate_left
            · intro w; go_simp; try with_reducible rfl
            try simp only [Act.put, List.setIfInBounds_toArray, List.set_cons_zero, List.set_cons_succ]
            refine wpAny_ready (rs := [9]) (by kernel_rfl) (by simp) ?_
            refine AllReady.cons (o := ⟨none, _, _, _, _, none⟩) rfl (fun K hK => ?_) AllReady.nil
            refine step_st1 22 (.tmp 53) (.tmp 52) (by rfl) (by rfl) (by rfl) (b := g13) (f := r) (by rfl) (v := .int .u16 (S' : Int)) (by rfl) b13 (by rw [len_u16s, HTl.out]; exact hr41) sizeU16 rfl rfl ?_
            intro w10 k13 hG10
            refine hK _ _ ?_
            clear hK K
            try simp only [Act.put, List.setIfInBounds_toArray, List.set_cons_zero, List.set_cons_succ]
            refine wpAny_done (by kernel_rfl) ?_ _
            refine NoPanic.normal ?_
            rw [set_u16s] at k13
            have hCh := hCh.grow hG10 (fun k hk => by injection hk with hk; exact .inl hk.symm)
            clear hG10 b13 c1 c3 cS
            go_wp2
            go_roundw
            case rel => exact ⟨j + 1, _, by omega, by go_num, by rw [Htk.out]; exact HTn.out, k13, hCh⟩
            case measure => simp [intOf]; omega
          refine AllReady.cons (o := ⟨some 50, .load 3 (.tmp 49), _, _, _, none⟩) rfl (fun K hK => ?_) AllReady.nil
          refine step_ld1 3 (.tmp 49) (by rfl) (by rfl) (by rfl) c1 Tryz.isAgg3 ?_
          refine hK _ _ ?_
          clear hK K
          try simp only [Act.put, List.setIfInBounds_toArray, List.set_cons_zero, List.set_cons_succ]
          refine wpAny_take (i := 6) (oi := ⟨some 51, _, _, _, _, none⟩) (v := ?_) rfl (by kernel_rfl) (by kernel_rfl) (by kernel_rfl) (fun _ _ _ h => h) (Or.inl ⟨by rfl, ?_⟩) ?_
          rotate_left
          · intro w; go_simp; try with_reducible rfl
          try simp only [Act.put, List.setIfInBounds_toArray, List.set_cons_zero, List.set_cons_succ]
          refine wpAny_ready (rs := [1]) (by kernel_rfl) (by simp) ?_
          refine AllReady.cons (o := ⟨some 46, .load 3 (.tmp 45), _, _, _, none⟩) rfl (fun K hK => ?_) AllReady.nil
          refine step_ld1 3 (.tmp 45) (by rfl) (by rfl) (by rfl) c3 Tryz.isAgg3 ?_
          refine hK _ _ ?_
          clear hK K
          try simp only [Act.put, List.setIfInBounds_toArray, List.set_cons_zero, List.set_cons_succ]
          refine wpAny_take (i := 2) (oi := ⟨some 47, _, _, _, _, none⟩) (v := ?_) rfl (by kernel_rfl) (by kernel_rfl) (by kernel_rfl) (fun _ _ _ h => h) (Or.inl ⟨by rfl, ?_⟩) ?_
          rotate_left
          · intro w; go_simp; try with_reducible rfl
          try simp only [Act.put, List.setIfInBounds_toArray, List.set_cons_zero, List.set_cons_succ]
          refine wpAny_ready (rs := [3]) (by kernel_rfl) (by simp) ?_
          refine AllReady.cons (o := ⟨some 48, .load 22 (.tmp 47), _, _, _, none⟩) rfl (fun K hK => ?_) AllReady.nil
          refine step_ld1 22 (.tmp 47) (by rfl) (by rfl) (by rfl) cS Tryz.isAgg22 ?_
          refine hK _ _ ?_
          clear hK K
          try simp only [Act.put, List.setIfInBounds_toArray, List.set_cons_zero, List.set_cons_succ]
          refine wpAny_take (i := 7) (oi := ⟨some 52, _, _, _, _, none⟩) (v := ?_) rfl (by kernel_rfl) (by kernel_rfl) (by kernel_rfl) (fun _ _ _ h => h) (Or.inl ⟨by rfl, ?_⟩) ?_
          rotate_left
          · intro w; go_simp; try with_reducible rfl
          try simp only [Act.put, List.setIfInBounds_toArray, List.set_cons_zero, List.set_cons_succ]
          refine wpAny_take (i := 8) (oi := ⟨some 53, _, _, _, _, none⟩) (v := ?_) rfl (by kernel_rfl) (by kernel_rfl) (by kernel_rfl) (fun _ _ _ h => h) (Or.inl ⟨by rfl, ?_⟩) ?_
          rotate_left
          · intro w; go_simp; try with_reducible rfl
          try simp only [Act.put, List.setIfInBounds_toArray, List.set_cons_zero, List.set_cons_succ]
          refine wpAny_ready (rs := [9]) (by kernel_rfl) (by simp) ?_
          refine AllReady.cons (o := ⟨none, _, _, _, _, none⟩) rfl (fun K hK => ?_) AllReady.nil
          refine step_st1 22 (.tmp 53) (.tmp 52) (by rfl) (by rfl) (by rfl) (b := g13) (f := r) (by rfl) (v := .int .u16 (S' : Int)) (by rfl) b13 (by rw [len_u16s, HTl.out]; exact hr41) sizeU16 rfl rfl ?_
          intro w10 k13 hG10
          refine hK _ _ ?_
          clear hK K
          try simp only [Act.put, List.setIfInBounds_toArray, List.set_cons_zero, List.set_cons_succ]
          refine wpAny_done (by kernel_rfl) ?_ _
          refine NoPanic.normal ?_
          rw [set_u16s] at k13
          have hCh := hCh.grow hG10 (fun k hk => by injection hk with hk; exact .inl hk.symm)
          clear hG10 b13 c1 c3 cS
          go_wp2
          go_roundw
          case rel => exact ⟨j + 1, _, by omega, by go_num, by rw [Htk.out]; exact HTn.out, k13, hCh⟩
          case measure => simp [intOf]; omega
      · have hJ : ¬ (j : Int) < (P.length : Int) := by omega
        have htk : P.take j = P := List.take_of_length_le (by omega)
        rw [htk] at hT
        have HT := hid hT
        have b5 := b5.ch hCh hg5
        have hB := Ch.below_of hB hCh (fun k (hk : k = g13) => by omega) hB.size
        have HTl := hid hT.len
        have hwr := hB.size
        clear htk hD hKS hk hp hfd hT hCh
        go_wp2_with (first | refine wp_ld 82 (.tmp 13) rfl rfl rfl b13.whole Tryz.underlying82 rfl (by rw [len_u16s, HTl.out]; exact size41) ?_)
        obtain ⟨lT, hlT⟩ : ∃ l, l = u16s T := ⟨_, rfl⟩
        rw [← hlT]
        have HlT := hid hlT
        clear hlT b13
        obtain ⟨wq, hwq⟩ : ∃ x, x = wr := ⟨_, rfl⟩
        rw [← hwq] at b5 hB hwr ⊢
        clear hwq
        go_loopw [56] (fun iv wr => ∃ r : Nat, r ≤ 41 ∧ iv = .int .i64 r ∧ Hid (∀ k : Nat, k < r → enC ks ⟨n, M⟩ ⟨3, n, (k : Int), s, h⟩ P = false) ∧ Below wq.heap.size wq wr) (fun r _ => 41 - (intOf r).toNat)
        case atStart => exact ⟨0, by omega, rfl, (fun k hk => by omega), Below.refl _ _⟩
        case round =>
          obtain ⟨r, hr41, rfl, hn, hBr⟩ := hrel
          by_cases hlt : r < 41
          · have hI : (r : Int) < 41 := by omega
            obtain ⟨S, hS⟩ : ∃ S, T[r]? = some S := ⟨_, List.getElem?_eq_getElem (by rw [HTl.out]; exact hlt)⟩
            have hSw := HT.out.at_ r S hS
            have Hsz := hid (Hen.out r S hSw)
            have Hat2 := hid (fun he => Hat.out r Hx.out (by omega) he hn)
            have hSl := hSw.1
            have HlS : Hid (lT[r]? = some (.int .u16 (S : Int))) := hid (by rw [HlT.out]; exact u16s_at hS)
            have b5 := b5.below hBr
            have hszr := hBr.size
            clear hS hSw
            go_wp2_with (first | refine wp_idx 82 (.tmp 55) (.tmp 56) rfl rfl rfl rfl Tryz.underlying82 hlt Tryz.isAgg22 sizeU16 HlS.out ?_ | refine wp_ld 24 (.tmp 6) rfl rfl rfl b5.whole Tryz.underlying24 rfl sizeVw17 ?_)
            refine (hiq.out S _ hSl).mono ?_
            rintro e w6 ⟨rfl, hB6⟩
            have hBr := hBr.trans (hB6.mono hszr)
            obtain ⟨d, hd⟩ : ∃ d, d = decide (quoN n M ≤ szM S) := ⟨_, rfl⟩
            rw [← hd]
            have Hd := hid hd
            clear hd hB6
            obtain ⟨d2, hd2⟩ : ∃ d2, d = d2 := ⟨_, rfl⟩
            rw [hd2]
            have Hd2 := hid hd2
            clear hd2
            cases d2 with
            | true =>
              have Hz := hid (Hat2.out (by rw [← Hsz.out]; exact of_decide_eq_true (Hd.out.symm.trans Hd2.out)))
              have hBe := hB.trans (hBr.mono hwr)
              clear Hat2
              go_wp2
              go_ret2
              exact ⟨by rw [Hz.out]; rfl, hBe⟩
            | false =>
              have Hn2 : Hid (∀ k : Nat, k < r + 1 → enC ks ⟨n, M⟩ ⟨3, n, (k : Int), s, h⟩ P = false) := hid (fun k hk => by
                by_cases hkr : k < r
                · exact hn k hkr
                · have : k = r := by omega
                  subst this
                  show decide (quoN n M ≤ (whoC ks ⟨n, M⟩ ⟨3, n, (k : Int), s, h⟩ P).length) = false
                  rw [← Hsz.out]
                  exact Hd.out.symm.trans Hd2.out)
              clear Hat2
              go_wp2
              go_roundw
              case rel => exact ⟨r + 1, by omega, by go_num, Hn2, hBr⟩
              case measure => simp [intOf]; omega
          · have hI : ¬ (r : Int) < 41 := by omega
            have Hz := hid (Hnn.out (fun k hk => hn k (by omega)))
            have hBe := hB.trans (hBr.mono hwr)
            clear hn
            go_wp2
            go_ret2
            exact ⟨by rw [Hz.out]; rfl, hBe⟩
end Go.Proofs.YtnhhbbjkeekneaaGreatDoor
