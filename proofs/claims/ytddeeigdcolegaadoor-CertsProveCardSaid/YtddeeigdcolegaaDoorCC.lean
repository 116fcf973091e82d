/- CC: several texts in one (CF CH CJ CC). -/
import Derived.Test.YtddeeigdcolegaaDoorCE
import Derived.Test.YtddeeigdcolegaaDoorCz
import Derived.Test.YtddeeigdcolegaaDoorOT
import Derived.Test.YtddeeigdcolegaaDoorBC
import Derived.Test.YtddeeigdcolegaaDoorVE
/- CF: layer 17: contracts of certs.Who and certs.Pick. -/
namespace Go.Proofs.YtddeeigdcolegaaDoor
open Go.RowKit Go.V
/-- parts that a law takes -/
structure PsSm (P : List (List UInt8)) : Prop where
  n : P.length ≤ 100
  t : ∀ X ∈ P, X.length ≤ 1000
theorem OT.fresh {w w' : World} {e e' : TypeId} {base n : Nat} {av v : Value} {l : List (List UInt8)} {us : List Value} {X : List UInt8} (h : OT w e base nob av l us) (ho : w'.ownsRow w.heap.size e' 1 v n (bvs X)) (hb : base ≤ w.heap.size) : Rd w' (fun b => base ≤ b ∧ ¬ nob b ∧ av.ownBlock ≠ some b) v (bys X) :=
  (Rd.of_own ho).weak (fun b _ (h2 : w.heap.size ≤ b) => ⟨by omega, fun h => h, fun e => by have := (h.own.lt b e).2; omega⟩)
theorem fm_next {f : Nat → Option (List UInt8)} {L : List Nat} {i k : Nat} {X : List UInt8} (hk : L[i]? = some k) (hX : f k = some X) : (L.take (i + 1)).filterMap f = (L.take i).filterMap f ++ [X] := by
  rw [List.take_add_one, hk, List.filterMap_append]
  simp [hX]
theorem fm_len {f : Nat → Option (List UInt8)} {L : List Nat} {i : Nat} : ((L.take i).filterMap f).length ≤ i := by
  have := List.length_filterMap_le f (L.take i)
  rw [List.length_take] at this
  omega
set_option maxRecDepth 100000 in
set_option maxHeartbeats 8000000 in
theorem cwho17_any (ks : List (List UInt8)) (V : Vc) (P : List (List UInt8)) (m : Mg) (uk ur pv ub up : Value) (F H F1 F2 : Nat → Prop) (w : World) (hKS : KS w) (hks : KsSm ks) (hk : Rd w F uk (tx ks)) (hp : Rd w H pv (tx P)) (hP : PsSm P) (hV : in64w V.n ∧ V.m < 65536) (hm : MgIn m) (_hub : Rd w F1 ub (bys m.b)) (_hup : Rd w F2 up (tx m.ps)) :
    Calls Tryd.prog 11 #[.agg #[uk, ur], vw V.n V.m, .agg (m.l ub up).toArray, pv] w fun e w' => ∃ v', e = .returned v' ∧ NewI w w' v' (whoC ks V (qOf m) P) := by
  obtain ⟨n, M⟩ := V
  have hV := hV.2
  dsimp only at hV
  have hm := hm.h
  obtain ⟨A, c, rfl, hcA, hcm⟩ := hp.slShape
  obtain ⟨W0, hW0, b4, b5, b6, hB⟩ := alloc3 w 37 24 30 [uk, ur] [.int .i64 n, .int .u16 (M : Int)] (m.l ub up)
  have Hl39 := hid (len_mg hm ub up)
  have hvo := hid (fun Y h0 h1 h2 => voters17_any ks ⟨n, M⟩ P m uk ur (.slice A P.length c) ub up F H Y h0 hks h1 h2 (by have := hP.n; omega) (fun X hX => by have := hP.t X hX; omega) hV hm)
  have hKS := hKS.below hB
  have hk := hk.below hB
  have hp := hp.below hB
  obtain ⟨lm, hlm⟩ : ∃ l, l = m.l ub up := ⟨_, rfl⟩
  rw [← hlm] at hW0 b6 Hl39 hvo ⊢
  obtain ⟨q, hq⟩ : ∃ q, q = qOf m := ⟨_, rfl⟩
  rw [← hq] at hvo ⊢
  clear hq hlm hm hP
  unfold vw at hvo ⊢
  go_enter Tryd.func11, Tryd.ntmps11
  go_upto_region 1 with (fail)
  first | rw [← hW0] | (simp only [List.toArray] at hW0 ⊢; rw [← hW0])
  clear hW0
  obtain ⟨g6, hg6⟩ : ∃ g, g = w.heap.size + 1 + 1 := ⟨_, rfl⟩
  rw [← hg6] at b6 ⊢
  obtain ⟨g5, hg5⟩ : ∃ g, g = w.heap.size + 1 := ⟨_, rfl⟩
  rw [← hg5] at b5 ⊢
  obtain ⟨g4, hg4⟩ : ∃ g, g = w.heap.size := ⟨_, rfl⟩
  rw [← hg4] at b4 ⊢
  clear hg4 hg5 hg6
  go_wp2_with (first | refine wp_ld 37 (.tmp 4) rfl rfl rfl b4.whole Tryd.underlying37 rfl sizeKs17 ?_ | refine wp_ld 24 (.tmp 5) rfl rfl rfl b5.whole Tryd.underlying24 rfl sizeVw17 ?_ | refine wp_ld 30 (.tmp 6) rfl rfl rfl b6.whole Tryd.underlying30 rfl (by rw [Hl39.out]; exact sizeM) ?_)
  refine (hvo.out _ hKS hk hp).mono ?_
  rintro e w1 ⟨S, us, rfl, hS, hus, hB1⟩
  have hsz1 := hB.size
  have hszb := hB1.size
  have hone := hus.one
  have hlu := hus.len
  have Hme := hid (set_who hS)
  have hS := hS.1
  have hB := hB.trans (hB1.mono hB.size)
  have b10 := Blk.new' w1 57 zF17
  have hB2 : Below w1.heap.size w1 (w1.alloc (.cells zF17.toArray 57)) := (Below.refl _ _).alloc (Nat.le_refl _) _
  clear hB1 hus hKS hk hp b4 b5 b6 hvo
  go_wp2_with (first | (refine wp_new 57 rfl rfl zero16F ?_; refine wp_stop ?_))
  obtain ⟨w2, hw2⟩ : ∃ x, x = w1.alloc (.cells zF17.toArray 57) := ⟨_, rfl⟩
  rw [← hw2] at b10 hB2 ⊢
  have hB := hB.trans (hB2.mono hB.size)
  obtain ⟨g10, hg10⟩ : ∃ g, g = w1.heap.size := ⟨_, rfl⟩
  have hwg : w.heap.size ≤ g10 := by omega
  rw [← hg10] at b10 ⊢
  clear hw2 hg10 hB2
  refine wp_go ?_
  go_wp2_with (first | (refine wp_st 57 (.tmp 10) (.tmp 18) rfl rfl rfl (f := 0) rfl (l := us) rfl b10 (by rw [hlu]; simp [zF17]) (by rw [hlu]; exact size16F) hone ?_; intro w3 k10 G10; refine wp_stop ?_))
  have hB := hB.grown G10 hB.size (fun k hk => by injection hk with hk; omega)
  clear k10 G10 b10 hone hlu
  refine wp_go ?_
  go_wp2_with (fail)
  refine (mem17_any S _ hS).mono ?_
  rintro e w4 ⟨v4, rfl, ho4, hB4⟩
  rw [Hme.out] at ho4
  obtain ⟨A4, c4, rfl⟩ := own_shape ho4
  go_wp2
  go_ret
  exact ⟨_, rfl, own_weak ho4 hB.size, hB.trans (hB4.mono hB.size)⟩
set_option maxRecDepth 100000 in
set_option maxHeartbeats 8000000 in
theorem cpick17_any (ks : List (List UInt8)) (V : Vc) (P : List (List UInt8)) (m : Mg) (uk ur pv ub up : Value) (F H F1 F2 : Nat → Prop) (w : World) (hKS : KS w) (hks : KsSm ks) (hk : Rd w F uk (tx ks)) (hp : Rd w H pv (tx P)) (hP : PsSm P) (hV : in64w V.n ∧ V.m < 65536) (hm : MgIn m) (_hub : Rd w F1 ub (bys m.b)) (_hup : Rd w F2 up (tx m.ps)) :
    Calls Tryd.prog 14 #[.agg #[uk, ur], vw V.n V.m, .agg (m.l ub up).toArray, pv] w fun e w' => ∃ v', e = .returned v' ∧ Rd w' (fun b => H b ∨ w.heap.size ≤ b) v' (tx (pickC ks V (qOf m) P)) ∧ Below w.heap.size w w' := by
  obtain ⟨n, M⟩ := V
  have hV := hV.2
  dsimp only at hV
  have hm := hm.h
  obtain ⟨A, c, rfl, hcA, hcm⟩ := hp.slShape
  obtain ⟨W0, hW0, b4, b5, b6, hB⟩ := alloc3 w 37 24 30 [uk, ur] [.int .i64 n, .int .u16 (M : Int)] (m.l ub up)
  have Hl39 := hid (len_mg hm ub up)
  have hp := hp.weak (F' := fun b => b < w.heap.size) (fun b hb hF => hb)
  have hvo := hid (fun Y h0 h1 h2 => voters17_any ks ⟨n, M⟩ P m uk ur (.slice A P.length c) ub up F (fun b => b < w.heap.size) Y h0 hks h1 h2 (by have := hP.n; omega) (fun X hX => by have := hP.t X hX; omega) hV hm)
  have hKS := hKS.below hB
  have hk := hk.below hB
  have hp := hp.below hB
  have hPt := hid hP.t
  obtain ⟨lm, hlm⟩ : ∃ l, l = m.l ub up := ⟨_, rfl⟩
  rw [← hlm] at hW0 b6 Hl39 hvo ⊢
  obtain ⟨q, hq⟩ : ∃ q, q = qOf m := ⟨_, rfl⟩
  rw [← hq] at hvo ⊢
  have Hpk := hid (pick_fst ks ⟨n, M⟩ q P)
  have Hwf := hid (fun i h => who_fst (ks := ks) (V := ⟨n, M⟩) (q := q) (P := P) (i := i) h)
  have hLl := who_len ks ⟨n, M⟩ q P
  obtain ⟨L, hL⟩ : ∃ L, L = whoC ks ⟨n, M⟩ q P := ⟨_, rfl⟩
  obtain ⟨f, hf⟩ : ∃ f, f = fstC ks ⟨n, M⟩ q P := ⟨_, rfl⟩
  rw [← hL, ← hf] at Hpk
  rw [← hL] at Hwf hLl
  rw [← hf] at Hwf
  have HL := hid hL
  have Hf := hid hf
  clear hq hlm hm hP hL hf
  unfold vw at hvo ⊢
  go_enter Tryd.func14, Tryd.ntmps14
  go_upto_region 1 with (fail)
  first | rw [← hW0] | (simp only [List.toArray] at hW0 ⊢; rw [← hW0])
  clear hW0
  obtain ⟨g6, hg6⟩ : ∃ g, g = w.heap.size + 1 + 1 := ⟨_, rfl⟩
  rw [← hg6] at b6 ⊢
  obtain ⟨g5, hg5⟩ : ∃ g, g = w.heap.size + 1 := ⟨_, rfl⟩
  rw [← hg5] at b5 ⊢
  obtain ⟨g4, hg4⟩ : ∃ g, g = w.heap.size := ⟨_, rfl⟩
  rw [← hg4] at b4 ⊢
  clear hg4 hg5 hg6
  go_wp2_with (first | refine wp_ld 37 (.tmp 4) rfl rfl rfl b4.whole Tryd.underlying37 rfl sizeKs17 ?_ | refine wp_ld 24 (.tmp 5) rfl rfl rfl b5.whole Tryd.underlying24 rfl sizeVw17 ?_ | refine wp_ld 30 (.tmp 6) rfl rfl rfl b6.whole Tryd.underlying30 rfl (by rw [Hl39.out]; exact sizeM) ?_)
  refine (hvo.out _ hKS hk hp).mono ?_
  rintro e w1 ⟨S, us, rfl, hS, hus, hB1⟩
  have hone := hus.one
  have Hme := hid ((set_who hS).trans HL.out.symm)
  rw [← Hf.out] at hus
  have hS := hS.1
  have hB := hB.trans (hB1.mono hB.size)
  have hsz1 := hB.size
  have b10 := Blk.new' w1 57 zF17
  have hB2 : Below w1.heap.size w1 (w1.alloc (.cells zF17.toArray 57)) := (Below.refl _ _).alloc (Nat.le_refl _) _
  clear hB1 hKS hk hp b4 b5 b6 hvo
  go_wp2_with (first | (refine wp_new 57 rfl rfl zero16F ?_; refine wp_stop ?_))
  obtain ⟨w2, hw2⟩ : ∃ x, x = w1.alloc (.cells zF17.toArray 57) := ⟨_, rfl⟩
  rw [← hw2] at b10 hB2 ⊢
  have hB := hB.trans (hB2.mono hB.size)
  have hus := hus.keep (H' := fun b => b < w.heap.size) (fun b hb hF => ⟨hF, hB2.block b hb⟩)
  obtain ⟨g10, hg10⟩ : ∃ g, g = w1.heap.size := ⟨_, rfl⟩
  have hwg : w.heap.size ≤ g10 := by omega
  rw [← hg10] at b10 ⊢
  clear hw2 hg10 hB2
  refine wp_go ?_
  go_wp2_with (first | (refine wp_st 57 (.tmp 10) (.tmp 21) rfl rfl rfl (f := 0) rfl (l := us) rfl b10 (by rw [hus.len]; simp [zF17]) (by rw [hus.len]; exact size16F) hone ?_; intro w3 k10 G10; refine wp_stop ?_))
  rw [set_all _ _ (by rw [hus.len]; simp [zF17])] at k10
  have hus := hus.keep (H' := fun b => b < w.heap.size) (fun b hb hF => ⟨hF, G10.block b hb (by intro h; injection h with h; omega)⟩)
  have hB := hB.grown G10 hB.size (fun k hk => by injection hk with hk; omega)
  clear G10 b10 hone
  refine wp_go ?_
  go_wp2_with (fail)
  refine (mem17_any S _ hS).mono ?_
  rintro e w4 ⟨v4, rfl, ho4, hB4⟩
  rw [Hme.out] at ho4
  obtain ⟨A4, c4, rfl⟩ := own_shape ho4
  have k10 := k10.below hB4
  have hus := hus.keep (H' := fun b => b < w.heap.size) (fun b hb hF => ⟨hF, hB4.block b hb⟩)
  have hB := hB.trans (hB4.mono hB.size)
  have hsz4 := hB.size
  have hOT := OT.nil w4 27 w4.heap.size nob
  clear hB4 hS Hme
  go_wp2
  go_loopw [11, 25] (fun ov iv wr => ∃ (i : Nat) (us' : List Value), i ≤ L.length ∧ iv = .int .i64 i ∧ OT wr 27 w4.heap.size nob ov ((L.take i).filterMap f) us' ∧ Below w4.heap.size w4 wr) (fun _ i _ => L.length - (intOf i).toNat)
  case atStart => exact ⟨0, [], by omega, rfl, hOT, Below.refl _ _⟩
  case round =>
    clear hOT
    obtain ⟨i, us', hi, rfl, hOT, hBr⟩ := hrel
    have hszr := hBr.size
    by_cases hlt : i < L.length
    · have hI : (i : Int) < (L.length : Int) := by omega
      obtain ⟨k, hk⟩ : ∃ k, L[i]? = some k := ⟨_, List.getElem?_eq_getElem hlt⟩
      obtain ⟨g23, c23, hv23, hg1, hg2, hc23⟩ := own_cellAt ho4 i _ (ivs_at L i k hk)
      injection hv23 with hA4 _ hc4
      subst hA4
      obtain ⟨X, hfX, hXP, hk16⟩ := Hwf.out k (List.mem_of_getElem? hk)
      have hXl := hPt.out X hXP
      have Hnx := hid (fm_next hk hfX)
      have hfl := fm_len (f := f) (L := L) (i := i)
      obtain ⟨D, hD⟩ : ∃ D, D = (L.take i).filterMap f := ⟨_, rfl⟩
      rw [← hD] at hOT Hnx hfl
      have c23' := (hBr.cell hg2).trans hc23
      obtain ⟨u, hu, hr⟩ := hus.at_ k hk16
      rw [hfX] at hr
      obtain ⟨Au, cu, rfl⟩ := Rd.shape (bs := X) hr
      have hr : Rd wr (fun b => b < w.heap.size) (.slice Au X.length cu) (bys X) := Rd.below hr hBr
      have cu10 := (k10.below hBr).cellAt k _ hu
      clear hk hfX hD hc4 hg1 hc23 hu hXP
      go_wp2_with (fail)
      refine (bclone_any X _ _ _ hr (by omega)).mono ?_
      rintro e w5 ⟨v5, rfl, ho5, hB5⟩
      obtain ⟨A5, c5, rfl⟩ := own_shape ho5
      have hv5 := OT.fresh hOT ho5 hszr
      have hOT := hOT.ch (Ch.of_below hB5) (fun b hb => hb.elim)
      have hBr := hBr.trans (hB5.mono hszr)
      have hszr := hBr.size
      clear hB5 hr c23' cu10
      go_wp2_with (first | (refine wp_push (.tmp 29) (.tmp 33) 34 slBB8 rfl rfl rfl rfl rfl (u := .slice A5 X.length c5) rfl rfl rfl (by simp) rfl hOT.own (by simp only [maxLen]; omega) (by omega) (by omega) ?_; intro v6 w6 ho6 hG6 hd6; refine wp_stop ?_))
      have hBr := hBr.grown hG6 hszr (fun k hk => (hOT.own.lt k hk).1)
      have hOT := OT.pushG hOT hv5 (fun b h => h.elim) ho6 hG6 hd6
      refine wp_go ?_
      go_wp2
      go_roundw
      case rel => exact ⟨i + 1, _, by omega, by go_num, by rw [Hnx.out]; exact hOT, hBr⟩
      case measure => simp [intOf]; omega
    · have hI : ¬ (i : Int) < (L.length : Int) := by omega
      have htk : L.take i = L := List.take_of_length_le (by omega)
      rw [htk, ← Hpk.out] at hOT
      have hfin := hOT.rd
      obtain ⟨Ao, co, rfl⟩ := own_shape hOT.own
      have hBe := hB.trans (hBr.mono hB.size)
      clear htk
      go_wp2
      go_ret
      exact ⟨_, rfl, hfin.weak (fun b _ h => .inr (Nat.le_trans hsz4 h)), hBe⟩
end Go.Proofs.YtddeeigdcolegaaDoor
/- CH: layer 17: contract of certs.Written. -/
namespace Go.Proofs.YtddeeigdcolegaaDoor
open Go.RowKit Go.V
set_option maxRecDepth 100000 in
set_option maxHeartbeats 8000000 in
theorem cwri17_any (ks : List (List UInt8)) (V : Vc) (P : List (List UInt8)) (r s : Int) (h : List UInt8) (uk ur pv : Value) (F H : Nat → Prop) (w : World) (hKS : KS w) (hks : KsSm ks) (hk : Rd w F uk (tx ks)) (hp : Rd w H pv (tx P)) (hP : PsSm P) (hV : in64w V.n ∧ V.m < 65536) (_hr : in64w r ∧ in64w s) (hh : h.length = 32) :
    Calls Tryd.prog 18 #[.agg #[uk, ur], vw V.n V.m, .int .i64 r, .int .i64 s, .agg (bvs h).toArray, pv] w fun e w' => e = .returned (.int .i64 (wriC ks V r s h P)) ∧ Below w.heap.size w w' := by
  obtain ⟨n, M⟩ := V
  have hV := hV.2
  dsimp only at hV
  obtain ⟨A, c, rfl, hcA, hcm⟩ := hp.slShape
  have hl32 : (bvs h).length = 32 := by rw [len_bvs]; exact hh
  obtain ⟨W0, hW0, b4, b5, b6, hB⟩ := alloc3 w 37 24 26 [uk, ur] [.int .i64 n, .int .u16 (M : Int)] (bvs h)
  have hmp := hid (fun Y => mayp17_any n M P A c Y hV (by have := hP.n; omega))
  have hvo : ∀ (Y : World), KS Y → Rd Y F uk (tx ks) → Rd Y H (.slice A P.length c) (tx P) → Calls Tryd.prog 23 #[.agg #[uk, ur], vw n M, .agg (aL 2 n r s h).toArray, .slice A P.length c] Y (VtP Y H ks ⟨n, M⟩ ⟨2, n, r, s, h⟩ P) := fun Y h0 h1 h2 => voters17_any ks ⟨n, M⟩ P (aM 2 n r s h) uk ur _ _ _ F H Y h0 hks h1 h2 (by have := hP.n; omega) (fun X hX => by have := hP.t X hX; omega) hV hh
  have hiq := hid (fun S Y hS => isq17_any n M S Y hV hS)
  have hbl := bldA17 2 n r s h hh
  have Lm := hid (len_aL 2 n r s h hh)
  have Om := hid (one_aL 2 n r s h)
  have hKS := hKS.below hB
  have hk := hk.below hB
  have hp := hp.below hB
  have Hok : Hid (wriC ks ⟨n, M⟩ r s h P = if okC ⟨n, M⟩ P = true ∧ enC ks ⟨n, M⟩ ⟨2, n, r, s, h⟩ P = true then 0 else 12) := hid rfl
  have Hen : Hid (∀ S, SetW S (fun i => P.any (isC ks ⟨n, M⟩ ⟨2, n, r, s, h⟩ i)) → enC ks ⟨n, M⟩ ⟨2, n, r, s, h⟩ P = decide (quoN n M ≤ szM S)) := hid (fun S hS => by rw [set_sz hS]; rfl)
  obtain ⟨Z, hZ⟩ : ∃ Z, Z = wriC ks ⟨n, M⟩ r s h P := ⟨_, rfl⟩
  rw [← hZ] at Hok ⊢
  obtain ⟨en, hen⟩ : ∃ x, x = enC ks ⟨n, M⟩ ⟨2, n, r, s, h⟩ P := ⟨_, rfl⟩
  rw [← hen] at Hen Hok
  obtain ⟨ok, hok⟩ : ∃ x, x = okC ⟨n, M⟩ P := ⟨_, rfl⟩
  rw [← hok] at Hok hmp
  obtain ⟨q, hq⟩ : ∃ q : Qc, q = ⟨2, n, r, s, h⟩ := ⟨_, rfl⟩
  rw [← hq] at hvo Hen
  obtain ⟨lm, hlm⟩ : ∃ l, l = aL 2 n r s h := ⟨_, rfl⟩
  rw [← hlm] at hvo hbl Lm Om
  obtain ⟨lh, hlh⟩ : ∃ l, l = bvs h := ⟨_, rfl⟩
  rw [← hlh] at hW0 b6 hbl hl32 ⊢
  have Hl32 := hid hl32
  have Hbl := hid hbl
  have Hvo := hid hvo
  clear hZ hen hok hq hlm hlh hvo hl32 hP hh hbl
  unfold vw at hmp Hvo hiq ⊢
  go_enter Tryd.func18, Tryd.ntmps18
  go_upto_region 1 with (fail)
  first | rw [← hW0] | (simp only [List.toArray] at hW0 ⊢; rw [← hW0])
  clear hW0
  obtain ⟨g6, hg6⟩ : ∃ g, g = w.heap.size + 1 + 1 := ⟨_, rfl⟩
  rw [← hg6] at b6 ⊢
  obtain ⟨g5, hg5⟩ : ∃ g, g = w.heap.size + 1 := ⟨_, rfl⟩
  rw [← hg5] at b5 ⊢
  obtain ⟨g4, hg4⟩ : ∃ g, g = w.heap.size := ⟨_, rfl⟩
  rw [← hg4] at b4 ⊢
  clear hg4 hg5 hg6
  go_wp2_with (refine wp_ld 24 (.tmp 7) rfl rfl rfl b5.whole Tryd.underlying24 rfl sizeVw17 ?_)
  refine (hmp.out _).mono ?_
  rintro e w1 ⟨rfl, hB1⟩
  have b4 := b4.below hB1
  have b5 := b5.below hB1
  have b6 := b6.below hB1
  have hKS := hKS.below hB1
  have hk := hk.below hB1
  have hp := hp.below hB1
  have hB := hB.trans (hB1.mono hB.size)
  clear hB1 hmp
  cases ok with
  | false =>
    have Hz := hid (show Z = 12 by rw [Hok.out]; simp)
    clear Hok Hen
    go_wp2
    go_ret
    exact ⟨by rw [Hz.out]; rfl, hB⟩
  | true =>
    have c0 := b5.cellAt 0 _ rfl
    go_wp2_with (first | refine wp_ld 26 (.tmp 10) rfl rfl rfl b6.whole Tryd.underlying26 rfl (by rw [Hl32.out]; exact size25) ?_ | refine wp_bld 30 [(0, .const (.int .i64 2)), (2, .tmp 21), (3, .tmp 22), (4, .tmp 23), (5, .tmp 24)] rfl rfl [(0, .int .i64 2), (2, .int .i64 n), (3, .int .i64 r), (4, .int .i64 s), (5, .agg lh.toArray)] rfl Hbl.out ?_ | (refine wp_newst 30 13 (.tmp 25) rfl rfl rfl rfl rfl rfl zeroM (l := lm) rfl (by rw [Lm.out]; exact len_zM) (by rw [Lm.out]; exact sizeM) Om.out (by simp [Act.put]) ?_; intro w2 b13 hB2 hs2; refine wp_stop ?_))
    have b4 := b4.below hB2
    have b5 := b5.below hB2
    have hKS := hKS.below hB2
    have hk := hk.below hB2
    have hp := hp.below hB2
    have hB := hB.trans (hB2.mono hB.size)
    obtain ⟨g13, hg13⟩ : ∃ g, g = w1.heap.size := ⟨_, rfl⟩
    rw [← hg13] at b13 ⊢
    clear hg13 hB2 hs2 c0 b6
    refine wp_go ?_
    go_wp2_with (first | refine wp_ld 37 (.tmp 6) rfl rfl rfl b4.whole Tryd.underlying37 rfl sizeKs17 ?_ | refine wp_ld 24 (.tmp 7) rfl rfl rfl b5.whole Tryd.underlying24 rfl sizeVw17 ?_ | refine wp_ld 30 (.tmp 13) rfl rfl rfl b13.whole Tryd.underlying30 rfl (by rw [Lm.out]; exact sizeM) ?_)
    refine (Hvo.out _ hKS hk hp).mono ?_
    rintro e w3 ⟨S, us, rfl, hS, hus, hB3⟩
    have hone := hus.one
    have hlu := hus.len
    have He := hid (Hen.out S hS)
    have hSl := hS.1
    have hsz3 := hB3.size
    have b5 := b5.below hB3
    have h5 := b5.lt
    have hB := hB.trans (hB3.mono hB.size)
    have hsz1 := hB.size
    have b15 := Blk.new' w3 57 zF17
    have hB4 : Below w3.heap.size w3 (w3.alloc (.cells zF17.toArray 57)) := (Below.refl _ _).alloc (Nat.le_refl _) _
    have b5 := b5.below hB4
    clear hB3 hus hKS hk hp b4 b13 Hvo Hen hS
    go_wp2_with (first | (refine wp_new 57 rfl rfl zero16F ?_; refine wp_stop ?_))
    obtain ⟨w4, hw4⟩ : ∃ x, x = w3.alloc (.cells zF17.toArray 57) := ⟨_, rfl⟩
    rw [← hw4] at b15 b5 hB4 ⊢
    have hB := hB.trans (hB4.mono hB.size)
    obtain ⟨g15, hg15⟩ : ∃ g, g = w3.heap.size := ⟨_, rfl⟩
    have hwg : w.heap.size ≤ g15 := by omega
    rw [← hg15] at b15 h5 ⊢
    clear hw4 hg15 hB4
    refine wp_go ?_
    go_wp2_with (first | (refine wp_st 57 (.tmp 15) (.tmp 33) rfl rfl rfl (f := 0) rfl (l := us) rfl b15 (by rw [hlu]; simp [zF17]) (by rw [hlu]; exact size16F) hone ?_; intro w5 k15 G15; refine wp_stop ?_))
    have b5 := b5.keep (G15.block _ b5.lt (by intro h; injection h with h; omega))
    have hB := hB.grown G15 hB.size (fun k hk => by injection hk with hk; omega)
    clear k15 G15 b15 hone hlu
    refine wp_go ?_
    go_wp2_with (first | refine wp_ld 24 (.tmp 7) rfl rfl rfl b5.whole Tryd.underlying24 rfl sizeVw17 ?_)
    refine (hiq.out S _ hSl).mono ?_
    rintro e w6 ⟨rfl, hB6⟩
    have hB := hB.trans (hB6.mono hB.size)
    rw [← He.out]
    clear He hB6
    cases en with
    | false =>
      have Hz := hid (show Z = 12 by rw [Hok.out]; simp)
      clear Hok
      go_wp2
      go_ret
      exact ⟨by rw [Hz.out]; rfl, hB⟩
    | true =>
      have Hz := hid (show Z = 0 by rw [Hok.out]; simp)
      clear Hok
      go_wp2
      go_ret
      exact ⟨by rw [Hz.out]; rfl, hB⟩
end Go.Proofs.YtddeeigdcolegaaDoor
/- CJ: layer 17: contract of certs.Decided. -/
namespace Go.Proofs.YtddeeigdcolegaaDoor
open Go.RowKit Go.V
def u16s (T : List Nat) : List Value := T.map fun (S : Nat) => .int .u16 (S : Int)
theorem len_u16s (T : List Nat) : (u16s T).length = T.length := by simp [u16s]
theorem u16s_at {T : List Nat} {r S : Nat} (h : T[r]? = some S) : (u16s T)[r]? = some (.int .u16 (S : Int)) := by simp [u16s, h]
theorem set_u16s (T : List Nat) (r S : Nat) : (u16s T).set r (.int .u16 (S : Int)) = u16s (T.set r S) := by simp [u16s, List.map_set]
theorem one_u16s (T : List Nat) : ∀ v ∈ u16s T, v.oneCell' = true := by
  intro v hv
  unfold u16s at hv
  rw [List.mem_map] at hv
  obtain ⟨S, _, rfl⟩ := hv
  rfl
def zT17 : List Nat := List.replicate 41 0
theorem zero41 : (Tryd.prog.info? 67).map (·.zero) = some (some (.agg (u16s zT17).toArray)) := by kernel_rfl
theorem size41 : (Tryd.prog.info? 67).map (·.size) = some 41 := by kernel_rfl
theorem sizeU16 : (Tryd.prog.info? 22).map (·.size) = some 1 := by kernel_rfl
set_option maxRecDepth 100000 in
theorem bldB17 (k n s : Int) (h : List UInt8) (hh : h.length = 32) : ∀ W : World, (Instr.build 30 [(0, .int .i64 k), (2, .int .i64 n), (4, .int .i64 s), (5, .agg (bvs h).toArray)].toArray).run Tryd.prog W = .ok (.agg (aL k n 0 s h).toArray) W := by
  match h, hh with
  | [a0, a1, a2, a3, a4, a5, a6, a7, a8, a9, a10, a11, a12, a13, a14, a15, a16, a17, a18, a19, a20, a21, a22, a23, a24, a25, a26, a27, a28, a29, a30, a31], _ => intro W; kernel_rfl
/-- of each regency the set of those that vote in it -/
structure SetsX (ks : List (List UInt8)) (V : Vc) (k v s : Int) (h : List UInt8) (P : List (List UInt8)) (T : List Nat) : Prop where
  len : T.length = 41
  at_ : ∀ (r S : Nat), T[r]? = some S → SetW S (fun i => P.any (isC ks V ⟨k, v, (r : Int), s, h⟩ i))
theorem fnd_reg (ks : List (List UInt8)) (V : Vc) (k v r r' s : Int) (h X : List UInt8) : fndC ks V ⟨k, v, r, s, h⟩ X = fndC ks V ⟨k, v, r', s, h⟩ X := rfl
theorem SetsX.zero (ks : List (List UInt8)) (V : Vc) (k v s : Int) (h : List UInt8) : SetsX ks V k v s h [] zT17 := ⟨by simp [zT17], fun r S hS => by
  have h0 : S = 0 := by unfold zT17 at hS; rw [List.getElem?_replicate] at hS; split at hS; injection hS with hS; exact hS.symm; cases hS
  subst h0
  exact SetW.zero.congr (fun i _ => rfl)⟩
theorem SetsX.same {ks : List (List UInt8)} {V : Vc} {k v s r0 : Int} {h X : List UInt8} {P : List (List UInt8)} {T : List Nat} (hT : SetsX ks V k v s h P T) (hn : fndC ks V ⟨k, v, r0, s, h⟩ X = none) : SetsX ks V k v s h (P ++ [X]) T := ⟨hT.len, fun r S hS => set_same (hT.at_ r S hS) (fun i _ hc => by rw [is_none ((fnd_reg ks V k v r r0 s h X).trans hn)] at hc; cases hc)⟩
theorem SetsX.put {ks : List (List UInt8)} {V : Vc} {k v s r0 : Int} {h X : List UInt8} {P : List (List UInt8)} {T : List Nat} {x : Mg} {r a S : Nat} (hT : SetsX ks V k v s h P T) (hf : fndC ks V ⟨k, v, r0, s, h⟩ X = some x) (hr : x.r = (r : Int)) (ha : x.f = (a : Int)) (ha16 : a < 16) (hS : T[r]? = some S) : SetsX ks V k v s h (P ++ [X]) (T.set r (putB S a)) := ⟨by rw [List.length_set]; exact hT.len, fun r' S' hS' => by
  have hf' := (fnd_reg ks V k v (r' : Int) r0 s h X).trans hf
  by_cases he : r' = r
  · subst he
    rw [List.getElem?_set_self (List.getElem?_eq_some_iff.1 hS).1] at hS'
    injection hS' with hS'
    subst hS'
    refine set_new (hT.at_ r' S hS) ha16 (fun i => ?_)
    rw [is_some hf' hr i, ha]
    rfl
  · rw [List.getElem?_set_ne (fun h => he h.symm)] at hS'
    refine set_same (hT.at_ r' S' hS') (fun i _ hc => ?_)
    rw [is_other hf' (by rw [hr]; intro hh; have hh : (r : Int) = (r' : Int) := hh; exact he (by omega))] at hc
    cases hc⟩
set_option maxRecDepth 100000 in
set_option maxHeartbeats 16000000 in
theorem cdec17_any (ks : List (List UInt8)) (V : Vc) (P : List (List UInt8)) (s : Int) (h : List UInt8) (uk ur pv : Value) (F H : Nat → Prop) (w : World) (hKS : KS w) (hks : KsSm ks) (hk : Rd w F uk (tx ks)) (hp : Rd w H pv (tx P)) (hP : PsSm P) (hV : in64w V.n ∧ V.m < 65536) (_hs : in64w s) (hh : h.length = 32) :
    Calls Tryd.prog 16 #[.agg #[uk, ur], vw V.n V.m, .int .i64 s, .agg (bvs h).toArray, pv] w fun e w' => e = .returned (.tuple #[.int .i64 (decC ks V s h P).1, .int .i64 (decC ks V s h P).2]) ∧ Below w.heap.size w w' := by
  obtain ⟨n, M⟩ := V
  have hV := hV.2
  dsimp only at hV
  obtain ⟨A, c, rfl, hcA, hcm⟩ := hp.slShape
  have hl32 : (bvs h).length = 32 := by rw [len_bvs]; exact hh
  obtain ⟨W0, hW0, b4, b5, b6, hB⟩ := alloc3 w 37 24 26 [uk, ur] [.int .i64 n, .int .u16 (M : Int)] (bvs h)
  have hmp := hid (fun Y => mayp17_any n M P A c Y hV (by have := hP.n; omega))
  have hiq := hid (fun S Y hS => isq17_any n M S Y hV hS)
  have hbl := bldB17 3 n s h hh
  have Lm := hid (len_aL 3 n 0 s h hh)
  have hfd := hid (fun gk gv gm X u F' G Y h0 h1 h2 h3 h4 => find17_any ks ⟨n, M⟩ X (aM 3 n 0 s h) gk gv gm uk ur u (.slice none 0 0) (.slice none 0 0) F' G Y h0 hks h1 h2 h3 hV hh h4)
  have hk := hk.weak (F' := fun b => b < w.heap.size) (fun b hb _ => hb)
  have hp := hp.weak (F' := fun b => b < w.heap.size) (fun b hb _ => hb)
  have hkl := hKS.lt
  have hKS := hKS.below hB
  have hk := hk.below hB
  have hp := hp.below hB
  have hPl := hid hP.t
  have hP16 : P.length ≤ 100 := hP.n
  have Hno := hid (fun hx => dec_no (ks := ks) (n := n) (M := M) (s := s) (h := h) (P := P) hx)
  have Hat := hid (fun r hx hr he hn => dec_at (ks := ks) (n := n) (M := M) (s := s) (h := h) (P := P) (r := r) hx hr he hn)
  have Hnn := hid (fun hn => dec_none (ks := ks) (n := n) (M := M) (s := s) (h := h) (P := P) hn)
  have Hok : Hid (okC ⟨n, M⟩ P = (rgt n M && decide (P.length ≤ 16))) := hid rfl
  obtain ⟨Z, hZ⟩ : ∃ Z, Z = decC ks ⟨n, M⟩ s h P := ⟨_, rfl⟩
  rw [← hZ] at Hno Hat Hnn ⊢
  obtain ⟨ok, hok⟩ : ∃ x, x = okC ⟨n, M⟩ P := ⟨_, rfl⟩
  rw [← hok] at Hok hmp
  have Hen : Hid (∀ (r S : Nat), SetW S (fun i => P.any (isC ks ⟨n, M⟩ ⟨3, n, (r : Int), s, h⟩ i)) → szM S = (whoC ks ⟨n, M⟩ ⟨3, n, (r : Int), s, h⟩ P).length) := hid (fun r S hS => set_sz hS)
  have hqq : qOf (aM 3 n 0 s h) = ⟨3, n, 0, s, h⟩ := rfl
  rw [hqq] at hfd
  have hmL : (aM 3 n 0 s h).l (.slice none 0 0) (.slice none 0 0) = aL 3 n 0 s h := rfl
  rw [hmL] at hfd
  obtain ⟨lm, hlm⟩ : ∃ l, l = aL 3 n 0 s h := ⟨_, rfl⟩
  rw [← hlm] at hbl Lm hfd
  obtain ⟨lh, hlh⟩ : ∃ l, l = bvs h := ⟨_, rfl⟩
  rw [← hlh] at hW0 b6 hbl hl32 ⊢
  have Hl32 := hid hl32
  have Hbl := hid hbl
  clear hZ hok hlm hlh hl32 hP hh hbl hqq hmL
  unfold vw at hmp hiq ⊢
  go_enter Tryd.func16, Tryd.ntmps16
  go_upto_region 1 with (fail)
  first | rw [← hW0] | (simp only [List.toArray] at hW0 ⊢; rw [← hW0])
  clear hW0
  obtain ⟨g6, hg6⟩ : ∃ g, g = w.heap.size + 1 + 1 := ⟨_, rfl⟩
  rw [← hg6] at b6 ⊢
  obtain ⟨g5, hg5⟩ : ∃ g, g = w.heap.size + 1 := ⟨_, rfl⟩
  rw [← hg5] at b5 ⊢
  obtain ⟨g4, hg4⟩ : ∃ g, g = w.heap.size := ⟨_, rfl⟩
  rw [← hg4] at b4 ⊢
  clear hg4 hg5 hg6
  go_wp2_with (refine wp_ld 24 (.tmp 6) rfl rfl rfl b5.whole Tryd.underlying24 rfl sizeVw17 ?_)
  refine (hmp.out _).mono ?_
  rintro e w1 ⟨rfl, hB1⟩
  have b4 := b4.below hB1
  have b5 := b5.below hB1
  have b6 := b6.below hB1
  have hKS := hKS.below hB1
  have hk := hk.below hB1
  have hp := hp.below hB1
  have hB := hB.trans (hB1.mono hB.size)
  clear hB1 hmp
  have Hok2 : Hid (ok = true ↔ rgt n M = true ∧ P.length ≤ 16) := hid (by rw [Hok.out, Bool.and_eq_true, decide_eq_true_eq])
  obtain ⟨b, hb⟩ : ∃ b, ok = b := ⟨_, rfl⟩
  rw [hb]
  have Hb := hid hb
  clear hb Hok
  cases b with
  | false =>
    have Hz := hid (Hno.out (fun hx => by have := Hok2.out.2 hx; rw [Hb.out] at this; cases this))
    clear Hok2 Hen
    go_wp2
    go_ret2
    exact ⟨by rw [Hz.out]; rfl, hB⟩
  | true =>
    have Hx := hid (Hok2.out.1 Hb.out)
    have c0 := b5.cellAt 0 _ rfl
    clear Hok2 Hb Hno
    go_wp2_with (first | refine wp_ld 37 (.tmp 5) rfl rfl rfl b4.whole Tryd.underlying37 rfl sizeKs17 ?_ | refine wp_ld 24 (.tmp 6) rfl rfl rfl b5.whole Tryd.underlying24 rfl sizeVw17 ?_ | refine wp_ld 26 (.tmp 8) rfl rfl rfl b6.whole Tryd.underlying26 rfl (by rw [Hl32.out]; exact size25) ?_ | refine wp_bld 30 [(0, .const (.int .i64 3)), (2, .tmp 27), (4, .tmp 28), (5, .tmp 29)] rfl rfl [(0, .int .i64 3), (2, .int .i64 n), (4, .int .i64 s), (5, .agg lh.toArray)] rfl Hbl.out ?_)
    refine (finder17_any lm uk ur n M _).mono ?_
    rintro e w2 ⟨gk, gv, gm, rfl, hD, hgw, hB2⟩
    have hl6 := b6.lt
    have b5 := b5.below hB2
    have hKS := hKS.below hB2
    have hk := hk.below hB2
    have hp := hp.below hB2
    have hwl := hB.size
    have hB := hB.trans (hB2.mono hB.size)
    have hsz2 := hB2.size
    have hlk := hD.k.lt
    have hlv := hD.v.lt
    have hlg := hD.m.lt
    have hl5 := b5.lt
    have b13 := Blk.new' w2 67 (u16s zT17)
    have hB3 : Below w2.heap.size w2 (w2.alloc (.cells (u16s zT17).toArray 67)) := (Below.refl _ _).alloc (Nat.le_refl _) _
    clear hgw hB2 b4 b6 c0 hl6
    go_wp2_with (first | (refine wp_new 67 rfl rfl zero41 ?_; refine wp_stop ?_))
    obtain ⟨w3a, hw3⟩ : ∃ x, x = w2.alloc (.cells (u16s zT17).toArray 67) := ⟨_, rfl⟩
    rw [← hw3] at b13 hB3 ⊢
    have hD := hD.below hB3
    have b5 := b5.below hB3
    have hKS := hKS.below hB3
    have hk := hk.below hB3
    have hp := hp.below hB3
    have hB := hB.trans (hB3.mono hB.size)
    obtain ⟨g13, hg13⟩ : ∃ g, g = w2.heap.size := ⟨_, rfl⟩
    have hg5 : g5 ≠ g13 := by omega
    have hgk : gk ≠ g13 ∧ gv ≠ g13 ∧ gm ≠ g13 := ⟨by omega, by omega, by omega⟩
    have hw13 : w.heap.size ≤ g13 := by omega
    rw [← hg13] at b13 ⊢
    clear hw3 hg13 hB3 hlk hlv hlg hl5 hsz2 hwl
    refine wp_go ?_
    go_wp2
    go_loopw [34] (fun iv wr => ∃ (j : Nat) (T : List Nat), j ≤ P.length ∧ iv = .int .i64 j ∧ SetsX ks ⟨n, M⟩ 3 n s h (P.take j) T ∧ Blk wr g13 67 (u16s T) ∧ Ch (only g13) w3a wr) (fun j _ => P.length - (intOf j).toNat)
    case atStart => exact ⟨0, zT17, by omega, rfl, SetsX.zero _ _ _ _ _ _, b13, Ch.refl _ _⟩
    case round =>
      clear b13
      obtain ⟨j, T, hj, rfl, hT, b13, hCh⟩ := hrel
      by_cases hjl : j < P.length
      · have hJ : (j : Int) < (P.length : Int) := by omega
        have hD := hD.keep (w' := wr) (by rintro b (rfl | rfl | rfl); exact hCh.block _ hD.k.lt hgk.1; exact hCh.block _ hD.v.lt hgk.2.1; exact hCh.block _ hD.m.lt hgk.2.2)
        have hKS := hKS.keep (hCh.block _ hKS.lt (fun h => by have h : (0 : Nat) = g13 := h; omega))
        have hk := hk.ch hCh (fun b hb (h : b = g13) => by omega)
        have hp := hp.ch hCh (fun b hb (h : b = g13) => by omega)
        obtain ⟨X, hX⟩ : ∃ X, P[j]? = some X := ⟨_, List.getElem?_eq_getElem hjl⟩
        obtain ⟨gp, offp, u, hAp, _, hcu, hu⟩ := Rd.elem hp j (bys X) (by rw [List.getElem?_map, hX]; rfl)
        subst hAp
        obtain ⟨Au, cu, rfl⟩ := hu.shape
        have hXl := hPl.out X (List.mem_of_getElem? hX)
        have Htk : Hid (P.take (j + 1) = P.take j ++ [X]) := hid (by rw [List.take_add_one, hX]; rfl)
        clear hX
        go_wp2_with (fail)
        refine (hfd.out gk gv gm X _ _ _ wr hKS hk hu (by omega) hD).mono ?_
        rintro e w3 ⟨lx, rfl, hl39x, hox, hmx, hB2⟩
        have Hlx := hid hl39x
        have Hox := hid hox
        have Hmx := hid hmx
        have b13 := b13.below hB2
        have hCh := hCh.belowR hB2
        clear hl39x hox hmx hB2 hKS hk hp hD hcu hfd hu
        go_wp2_with (first | (refine wp_newst 30 16 (.tmp 42) rfl rfl rfl rfl rfl rfl zeroM (l := lx) rfl (by rw [Hlx.out]; exact len_zM) (by rw [Hlx.out]; exact sizeM) Hox.out (by simp) ?_; intro w4 b16 hB3 hs3; refine wp_stop ?_))
        have b13 := b13.below hB3
        have hCh := hCh.belowR hB3
        obtain ⟨g16, hg16⟩ : ∃ g, g = w3.heap.size := ⟨_, rfl⟩
        rw [← hg16] at b16 ⊢
        clear hs3 hB3 hg16
        obtain ⟨o, ho⟩ : ∃ o, o = fndC ks ⟨n, M⟩ ⟨3, n, 0, s, h⟩ X := ⟨_, rfl⟩
        rw [← ho] at Hmx ⊢
        obtain ⟨w3, hw3⟩ : ∃ x, x = w4 := ⟨_, rfl⟩
        rw [← hw3] at b13 b16 hCh ⊢
        clear hw3
        refine wp_go ?_
        cases o with
        | none =>
          have HTn := hid (hT.same ho.symm)
          clear ho Hmx
          go_wp2
          go_roundw
          case rel => exact ⟨j + 1, T, by omega, by go_num, by rw [Htk.out]; exact HTn.out, b13, hCh⟩
          case measure => simp [intOf]; omega
        | some x =>
          obtain ⟨hx1, hx3⟩ := Hmx.out x rfl
          have hbd := fnd_bd ho.symm
          obtain ⟨a, ha⟩ := Int.eq_ofNat_of_zero_le hbd.1
          obtain ⟨r, hr⟩ := Int.eq_ofNat_of_zero_le hbd.2.2.1
          have ha16 : a < 16 := by have := hbd.2.1; omega
          have hr41 : r < 41 := by have := hbd.2.2.2; omega
          obtain ⟨S, hS⟩ : ∃ S, T[r]? = some S := ⟨_, List.getElem?_eq_getElem (by rw [hT.len]; exact hr41)⟩
          have hor := or_bit17 S a (hT.at_ r S hS).1 ha16
          have HTn := hid (hT.put ho.symm hr ha ha16 hS)
          have HTl := hid hT.len
          have HTr := hid (u16s_at hS)
          rw [ha] at hx1
          rw [hr] at hx3
          have Hx1 := hid hx1
          have Hx3 := hid hx3
          have hr41I : (r : Int) < 41 := by omega
          have ha16I : (a : Int) < 16 := by omega
          obtain ⟨S', hS'⟩ : ∃ S', S' = putB S a := ⟨_, rfl⟩
          rw [← hS'] at hor HTn
          clear hS' ho Hmx ha hr hbd hS hx1 hx3 hT
          go_upto_region 10 with (fail)
          have hBd : Below w3.heap.size w3 w3.drew := (Below.refl _ _).drew
          have b13 := b13.below hBd
          have b16 := b16.below hBd
          have hCh := hCh.belowR hBd
          obtain ⟨wd, hwd⟩ : ∃ x, x = w3.drew := ⟨_, rfl⟩
          rw [← hwd] at b13 b16 hCh
          have c1 := b16.cellAt 1 _ Hx1.out
          have c3 := b16.cellAt 3 _ Hx3.out
          have cS := b13.cellAt r _ HTr.out
          refine wp_region_noPanic ?_
          refine wp_region_any (by kernel_rfl) ?_
          change wpAny _ _ _ _ _ _ _ (World.drew _)
          rw [← hwd]
          clear hwd hBd
          refine wpAny_take (i := 0) (oi := ⟨some 45, _, _, _, _, none⟩) (v := ?_) rfl (by kernel_rfl) (by kernel_rfl) (by kernel_rfl) (fun _ _ _ h => h) (Or.inl ⟨by rfl, ?_⟩) ?_
          rotate_left
          · intro w; go_simp; try with_reducible rfl
          try simp only [Act.put, List.setIfInBounds_toArray, List.set_cons_zero, List.set_cons_succ]
          refine wpAny_take (i := 4) (oi := ⟨some 49, _, _, _, _, none⟩) (v := ?_) rfl (by kernel_rfl) (by kernel_rfl) (by kernel_rfl) (fun _ _ _ h => h) (Or.inl ⟨by rfl, ?_⟩) ?_
          rotate_left
          · intro w; go_simp; try with_reducible rfl
          try simp only [Act.put, List.setIfInBounds_toArray, List.set_cons_zero, List.set_cons_succ]
          refine wpAny_ready (rs := [1, 5]) (by kernel_rfl) (by simp) ?_
          refine AllReady.cons (o := ⟨some 46, .load 3 (.tmp 45), _, _, _, none⟩) rfl (fun K hK => ?_) ?_
          · refine step_ld1 3 (.tmp 45) (by rfl) (by rfl) (by rfl) c3 Tryd.isAgg3 ?_
            refine hK _ _ ?_
            clear hK K
            try simp only [Act.put, List.setIfInBounds_toArray, List.set_cons_zero, List.set_cons_succ]
            refine wpAny_take (i := 2) (oi := ⟨some 47, _, _, _, _, none⟩) (v := ?_) rfl (by kernel_rfl) (by kernel_rfl) (by kernel_rfl) (fun _ _ _ h => h) (Or.inl ⟨by rfl, ?_⟩) ?_
            rotate_left
            · intro w; go_simp; try with_reducible rfl
            try simp only [Act.put, List.setIfInBounds_toArray, List.set_cons_zero, List.set_cons_succ]
            refine wpAny_ready (rs := [3, 5]) (by kernel_rfl) (by simp) ?_
            refine AllReady.cons (o := ⟨some 48, .load 22 (.tmp 47), _, _, _, none⟩) rfl (fun K hK => ?_) ?_
            · refine step_ld1 22 (.tmp 47) (by rfl) (by rfl) (by rfl) cS Tryd.isAgg22 ?_
              refine hK _ _ ?_
              clear hK K
              try simp only [Act.put, List.setIfInBounds_toArray, List.set_cons_zero, List.set_cons_succ]
              refine wpAny_ready (rs := [5]) (by kernel_rfl) (by simp) ?_
              refine AllReady.cons (o := ⟨some 50, .load 3 (.tmp 49), _, _, _, none⟩) rfl (fun K hK => ?_) AllReady.nil
              refine step_ld1 3 (.tmp 49) (by rfl) (by rfl) (by rfl) c1 Tryd.isAgg3 ?_
              refine hK _ _ ?_
              clear hK K
              try simp only [Act.put, List.setIfInBounds_toArray, List.set_cons_zero, List.set_cons_succ]
              refine wpAny_take (i := 6) (oi := ⟨some 51, _, _, _, _, none⟩) (v := ?_) rfl (by kernel_rfl) (by kernel_rfl) (by kernel_rfl) (fun _ _ _ h => h) (Or.inl ⟨by rfl, ?_⟩) ?_
              rotate_left
              · intro w; go_simp; try with_reducible rfl
              try simp only [Act.put, List.setIfInBounds_toArray, List.set_cons_zero, List.set_cons_succ]
              refine wpAny_take (i := 7) (oi := ⟨some 52, _, _, _, _, none⟩) (v := ?_) rfl (by kernel_rfl) (by kernel_rfl) (by kernel_rfl) (fun _ _ _ h => h) (Or.inl ⟨by rfl, ?_⟩) ?_
              rotate_left
              · intro w; go_simp; try with_reducible rfl
              try simp only [Act.put, List.setIfInBounds_toArray, List.set_cons_zero, List.set_cons_succ]
              refine wpAny_take (i := 8) (oi := ⟨some 53, _, _, _, _, none⟩) (v := ?_) rfl (by kernel_rfl) (by kernel_rfl) (by kernel_rfl) (fun _ _ _ h => h) (Or.inl ⟨by rfl, ?_⟩) ?_
              rotate_left
              · intro w; go_simp; try with_reducible rfl
              try simp only [Act.put, List.setIfInBounds_toArray, List.set_cons_zero, List.set_cons_succ]
              refine wpAny_ready (rs := [9]) (by kernel_rfl) (by simp) ?_
              refine AllReady.cons (o := ⟨none, _, _, _, _, none⟩) rfl (fun K hK => ?_) AllReady.nil
              refine step_st1 22 (.tmp 53) (.tmp 52) (by rfl) (by rfl) (by rfl) (b := g13) (f := r) (by rfl) (v := .int .u16 (S' : Int)) (by rfl) b13 (by rw [len_u16s, HTl.out]; exact hr41) sizeU16 rfl rfl ?_
              intro w10 k13 hG10
              refine hK _ _ ?_
              clear hK K
              try simp only [Act.put, List.setIfInBounds_toArray, List.set_cons_zero, List.set_cons_succ]
              refine wpAny_done (by kernel_rfl) ?_ _
              refine NoPanic.normal ?_
              rw [set_u16s] at k13
              have hCh := hCh.grow hG10 (fun k hk => by injection hk with hk; exact .inl hk.symm)
              clear hG10 b13 c1 c3 cS
              go_wp2
              go_roundw
              case rel => exact ⟨j + 1, _, by omega, by go_num, by rw [Htk.out]; exact HTn.out, k13, hCh⟩
              case measure => simp [intOf]; omega
            refine AllReady.cons (o := ⟨some 50, .load 3 (.tmp 49), _, _, _, none⟩) rfl (fun K hK => ?_) AllReady.nil
            refine step_ld1 3 (.tmp 49) (by rfl) (by rfl) (by rfl) c1 Tryd.isAgg3 ?_
            refine hK _ _ ?_
            clear hK K
            try simp only [Act.put, List.setIfInBounds_toArray, List.set_cons_zero, List.set_cons_succ]
            refine wpAny_take (i := 6) (oi := ⟨some 51, _, _, _, _, none⟩) (v := ?_) rfl (by kernel_rfl) (by kernel_rfl) (by kernel_rfl) (fun _ _ _ h => h) (Or.inl ⟨by rfl, ?_⟩) ?_
            rotate_left
            · intro w; go_simp; try with_reducible rfl
            try simp only [Act.put, List.setIfInBounds_toArray, List.set_cons_zero, List.set_cons_succ]
            refine wpAny_ready (rs := [3]) (by kernel_rfl) (by simp) ?_
            refine AllReady.cons (o := ⟨some 48, .load 22 (.tmp 47), _, _, _, none⟩) rfl (fun K hK => ?_) AllReady.nil
            refine step_ld1 22 (.tmp 47) (by rfl) (by rfl) (by rfl) cS Tryd.isAgg22 ?_
            refine hK _ _ ?_
            clear hK K
            try simp only [Act.put, List.setIfInBounds_toArray, List.set_cons_zero, List.set_cons_succ]
            refine wpAny_take (i := 7) (oi := ⟨some 52, _, _, _, _, none⟩) (v := ?_) rfl (by kernel_rfl) (by kernel_rfl) (by kernel_rfl) (fun _ _ _ h => h) (Or.inl ⟨by rfl, ?_⟩) ?_
            rotate_left
            · intro w; go_simp; try with_reducible rfl
            try simp only [Act.put, List.setIfInBounds_toArray, List.set_cons_zero, List.set_cons_succ]
            refine wpAny_take (i := 8) (oi := ⟨some 53, _, _, _, _, none⟩) (v := ?_) rfl (by kernel_rfl) (by kernel_rfl) (by kernel_rfl) (fun _ _ _ h => h) (Or.inl ⟨by rfl, ?_⟩) ?_
            rotate_left
            · intro w; go_simp; try with_reducible rfl
            try simp only [Act.put, List.setIfInBounds_toArray, List.set_cons_zero, List.set_cons_succ]
            refine wpAny_ready (rs := [9]) (by kernel_rfl) (by simp) ?_
            refine AllReady.cons (o := ⟨none, _, _, _, _, none⟩) rfl (fun K hK => ?_) AllReady.nil
            refine step_st1 22 (.tmp 53) (.tmp 52) (by rfl) (by rfl) (by rfl) (b := g13) (f := r) (by rfl) (v := .int .u16 (S' : Int)) (by rfl) b13 (by rw [len_u16s, HTl.out]; exact hr41) sizeU16 rfl rfl ?_
            intro w10 k13 hG10
            refine hK _ _ ?_
            clear hK K
            try simp only [Act.put, List.setIfInBounds_toArray, List.set_cons_zero, List.set_cons_succ]
            refine wpAny_done (by kernel_rfl) ?_ _
            refine NoPanic.normal ?_
            rw [set_u16s] at k13
            have hCh := hCh.grow hG10 (fun k hk => by injection hk with hk; exact .inl hk.symm)
            clear hG10 b13 c1 c3 cS
            go_wp2
            go_roundw
            case rel => exact ⟨j + 1, _, by omega, by go_num, by rw [Htk.out]; exact HTn.out, k13, hCh⟩
            case measure => simp [intOf]; omega
          refine AllReady.cons (o := ⟨some 50, .load 3 (.tmp 49), _, _, _, none⟩) rfl (fun K hK => ?_) AllReady.nil
          refine step_ld1 3 (.tmp 49) (by rfl) (by rfl) (by rfl) c1 Tryd.isAgg3 ?_
          refine hK _ _ ?_
          clear hK K
          try simp only [Act.put, List.setIfInBounds_toArray, List.set_cons_zero, List.set_cons_succ]
          refine wpAny_take (i := 6) (oi := ⟨some 51, _, _, _, _, none⟩) (v := ?_) rfl (by kernel_rfl) (by kernel_rfl) (by kernel_rfl) (fun _ _ _ h => h) (Or.inl ⟨by rfl, ?_⟩) ?_
          rotate_left
          · intro w; go_simp; try with_reducible rfl
          try simp only [Act.put, List.setIfInBounds_toArray, List.set_cons_zero, List.set_cons_succ]
          refine wpAny_ready (rs := [1]) (by kernel_rfl) (by simp) ?_
          refine AllReady.cons (o := ⟨some 46, .load 3 (.tmp 45), _, _, _, none⟩) rfl (fun K hK => ?_) AllReady.nil
          refine step_ld1 3 (.tmp 45) (by rfl) (by rfl) (by rfl) c3 Tryd.isAgg3 ?_
          refine hK _ _ ?_
          clear hK K
          try simp only [Act.put, List.setIfInBounds_toArray, List.set_cons_zero, List.set_cons_succ]
          refine wpAny_take (i := 2) (oi := ⟨some 47, _, _, _, _, none⟩) (v := ?_) rfl (by kernel_rfl) (by kernel_rfl) (by kernel_rfl) (fun _ _ _ h => h) (Or.inl ⟨by rfl, ?_⟩) ?_
          rotate_left
          · intro w; go_simp; try with_reducible rfl
          try simp only [Act.put, List.setIfInBounds_toArray, List.set_cons_zero, List.set_cons_succ]
          refine wpAny_ready (rs := [3]) (by kernel_rfl) (by simp) ?_
          refine AllReady.cons (o := ⟨some 48, .load 22 (.tmp 47), _, _, _, none⟩) rfl (fun K hK => ?_) AllReady.nil
          refine step_ld1 22 (.tmp 47) (by rfl) (by rfl) (by rfl) cS Tryd.isAgg22 ?_
          refine hK _ _ ?_
          clear hK K
          try simp only [Act.put, List.setIfInBounds_toArray, List.set_cons_zero, List.set_cons_succ]
          refine wpAny_take (i := 7) (oi := ⟨some 52, _, _, _, _, none⟩) (v := ?_) rfl (by kernel_rfl) (by kernel_rfl) (by kernel_rfl) (fun _ _ _ h => h) (Or.inl ⟨by rfl, ?_⟩) ?_
          rotate_left
          · intro w; go_simp; try with_reducible rfl
          try simp only [Act.put, List.setIfInBounds_toArray, List.set_cons_zero, List.set_cons_succ]
          refine wpAny_take (i := 8) (oi := ⟨some 53, _, _, _, _, none⟩) (v := ?_) rfl (by kernel_rfl) (by kernel_rfl) (by kernel_rfl) (fun _ _ _ h => h) (Or.inl ⟨by rfl, ?_⟩) ?_
          rotate_left
          · intro w; go_simp; try with_reducible rfl
          try simp only [Act.put, List.setIfInBounds_toArray, List.set_cons_zero, List.set_cons_succ]
          refine wpAny_ready (rs := [9]) (by kernel_rfl) (by simp) ?_
          refine AllReady.cons (o := ⟨none, _, _, _, _, none⟩) rfl (fun K hK => ?_) AllReady.nil
          refine step_st1 22 (.tmp 53) (.tmp 52) (by rfl) (by rfl) (by rfl) (b := g13) (f := r) (by rfl) (v := .int .u16 (S' : Int)) (by rfl) b13 (by rw [len_u16s, HTl.out]; exact hr41) sizeU16 rfl rfl ?_
          intro w10 k13 hG10
          refine hK _ _ ?_
          clear hK K
          try simp only [Act.put, List.setIfInBounds_toArray, List.set_cons_zero, List.set_cons_succ]
          refine wpAny_done (by kernel_rfl) ?_ _
          refine NoPanic.normal ?_
          rw [set_u16s] at k13
          have hCh := hCh.grow hG10 (fun k hk => by injection hk with hk; exact .inl hk.symm)
          clear hG10 b13 c1 c3 cS
          go_wp2
          go_roundw
          case rel => exact ⟨j + 1, _, by omega, by go_num, by rw [Htk.out]; exact HTn.out, k13, hCh⟩
          case measure => simp [intOf]; omega
      · have hJ : ¬ (j : Int) < (P.length : Int) := by omega
        have htk : P.take j = P := List.take_of_length_le (by omega)
        rw [htk] at hT
        have HT := hid hT
        have b5 := b5.ch hCh hg5
        have hB := Ch.below_of hB hCh (fun k (hk : k = g13) => by omega) hB.size
        have HTl := hid hT.len
        have hwr := hB.size
        clear htk hD hKS hk hp hfd hT hCh
        go_wp2_with (first | refine wp_ld 67 (.tmp 13) rfl rfl rfl b13.whole Tryd.underlying67 rfl (by rw [len_u16s, HTl.out]; exact size41) ?_)
        obtain ⟨lT, hlT⟩ : ∃ l, l = u16s T := ⟨_, rfl⟩
        rw [← hlT]
        have HlT := hid hlT
        clear hlT b13
        obtain ⟨wq, hwq⟩ : ∃ x, x = wr := ⟨_, rfl⟩
        rw [← hwq] at b5 hB hwr ⊢
        clear hwq
        go_loopw [56] (fun iv wr => ∃ r : Nat, r ≤ 41 ∧ iv = .int .i64 r ∧ Hid (∀ k : Nat, k < r → enC ks ⟨n, M⟩ ⟨3, n, (k : Int), s, h⟩ P = false) ∧ Below wq.heap.size wq wr) (fun r _ => 41 - (intOf r).toNat)
        case atStart => exact ⟨0, by omega, rfl, (fun k hk => by omega), Below.refl _ _⟩
        case round =>
          obtain ⟨r, hr41, rfl, hn, hBr⟩ := hrel
          by_cases hlt : r < 41
          · have hI : (r : Int) < 41 := by omega
            obtain ⟨S, hS⟩ : ∃ S, T[r]? = some S := ⟨_, List.getElem?_eq_getElem (by rw [HTl.out]; exact hlt)⟩
            have hSw := HT.out.at_ r S hS
            have Hsz := hid (Hen.out r S hSw)
            have Hat2 := hid (fun he => Hat.out r Hx.out (by omega) he hn)
            have hSl := hSw.1
            have HlS : Hid (lT[r]? = some (.int .u16 (S : Int))) := hid (by rw [HlT.out]; exact u16s_at hS)
            have b5 := b5.below hBr
            have hszr := hBr.size
            clear hS hSw
            go_wp2_with (first | refine wp_idx 67 (.tmp 55) (.tmp 56) rfl rfl rfl rfl Tryd.underlying67 hlt Tryd.isAgg22 sizeU16 HlS.out ?_ | refine wp_ld 24 (.tmp 6) rfl rfl rfl b5.whole Tryd.underlying24 rfl sizeVw17 ?_)
            refine (hiq.out S _ hSl).mono ?_
            rintro e w6 ⟨rfl, hB6⟩
            have hBr := hBr.trans (hB6.mono hszr)
            obtain ⟨d, hd⟩ : ∃ d, d = decide (quoN n M ≤ szM S) := ⟨_, rfl⟩
            rw [← hd]
            have Hd := hid hd
            clear hd hB6
            obtain ⟨d2, hd2⟩ : ∃ d2, d = d2 := ⟨_, rfl⟩
            rw [hd2]
            have Hd2 := hid hd2
            clear hd2
            cases d2 with
            | true =>
              have Hz := hid (Hat2.out (by rw [← Hsz.out]; exact of_decide_eq_true (Hd.out.symm.trans Hd2.out)))
              have hBe := hB.trans (hBr.mono hwr)
              clear Hat2
              go_wp2
              go_ret2
              exact ⟨by rw [Hz.out]; rfl, hBe⟩
            | false =>
              have Hn2 : Hid (∀ k : Nat, k < r + 1 → enC ks ⟨n, M⟩ ⟨3, n, (k : Int), s, h⟩ P = false) := hid (fun k hk => by
                by_cases hkr : k < r
                · exact hn k hkr
                · have : k = r := by omega
                  subst this
                  show decide (quoN n M ≤ (whoC ks ⟨n, M⟩ ⟨3, n, (k : Int), s, h⟩ P).length) = false
                  rw [← Hsz.out]
                  exact Hd.out.symm.trans Hd2.out)
              clear Hat2
              go_wp2
              go_roundw
              case rel => exact ⟨r + 1, by omega, by go_num, Hn2, hBr⟩
              case measure => simp [intOf]; omega
          · have hI : ¬ (r : Int) < 41 := by omega
            have Hz := hid (Hnn.out (fun k hk => hn k (by omega)))
            have hBe := hB.trans (hBr.mono hwr)
            clear hn
            go_wp2
            go_ret2
            exact ⟨by rw [Hz.out]; rfl, hBe⟩
end Go.Proofs.YtddeeigdcolegaaDoor
/- CC: layer 17: the contracts of package certs, all in one place: cwho17_any, cpick17_any (CF), cwri17_any (CH), cdec17_any (CJ). -/
namespace Go.Proofs.YtddeeigdcolegaaDoor
end Go.Proofs.YtddeeigdcolegaaDoor
