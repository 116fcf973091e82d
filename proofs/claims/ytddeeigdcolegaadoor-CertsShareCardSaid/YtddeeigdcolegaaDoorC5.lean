/- C5: layer 17: CertsShare. -/
import Derived.Test.YtddeeigdcolegaaDoorC6
namespace Go.Proofs.YtddeeigdcolegaaDoor
open Go.RowKit Go.V
/-- how many of the first j are x -/
def mtk (x : Nat) (B : List Nat) (j : Nat) : Nat := ((B.take j).filter (fun y => x == y)).length
def totC (A B : List Nat) (i : Nat) : Nat := ((A.take i).filter (fun x => B.contains x)).length
theorem mtk_next {x y : Nat} {B : List Nat} {j : Nat} (h : B[j]? = some y) : mtk x B (j + 1) = mtk x B j + if x = y then 1 else 0 := by
  unfold mtk
  rw [List.take_add_one, h, List.filter_append, List.length_append]
  congr 1
  by_cases hxy : x = y
  · rw [if_pos hxy]; simp [hxy]
  · rw [if_neg hxy]; simp [hxy]
theorem mtk_all (x : Nat) : ∀ (B : List Nat), B.Nodup → (B.filter (fun y => x == y)).length = if B.contains x = true then 1 else 0
  | [], _ => rfl
  | y :: B, h => by
    rw [List.nodup_cons] at h
    have ih := mtk_all x B h.2
    rw [List.filter_cons, List.contains_cons]
    by_cases hxy : x = y
    · subst hxy
      have hc : B.contains x = false := by
        cases hb : B.contains x with
        | false => rfl
        | true => exact absurd (List.contains_iff_mem.1 hb) h.1
      rw [hc] at ih
      have ih0 : (B.filter (fun y => x == y)).length = 0 := ih
      have hxx : (x == x) = true := by simp
      rw [hxx, if_pos rfl, List.length_cons, ih0]
      rfl
    · have hb : (x == y) = false := by simp [hxy]
      rw [hb]
      simp only [Bool.false_or, Bool.false_eq_true, if_false]
      exact ih
theorem totC_next {A B : List Nat} {i x : Nat} (h : A[i]? = some x) (hB : B.Nodup) : totC A B (i + 1) = totC A B i + mtk x B B.length := by
  unfold totC mtk
  rw [List.take_length, mtk_all x B hB, List.take_add_one, h, List.filter_append, List.length_append]
  congr 1
  cases hc : B.contains x <;> simp_all
theorem totC_all (A B : List Nat) : totC A B A.length = (bothC A B).length := by
  unfold totC bothC
  rw [List.take_length]
theorem al_hash (k n r s : Int) (h h2 : List UInt8) (hh : h.length = 32) (hh2 : h2.length = 32) : (aL k n r s h).take 5 ++ bvs h2 ++ (aL k n r s h).drop (5 + (bvs h2).length) = aL k n r s h2 := by
  rw [Nat.add_comm]
  show [_, _, _, _, _] ++ bvs h2 ++ List.drop (bvs h2).length (bvs h ++ [_, _]) = _
  rw [List.drop_left' (by rw [len_bvs, len_bvs, hh, hh2])]
  rfl
set_option maxRecDepth 100000 in
set_option maxHeartbeats 16000000 in
theorem certsShare_law (V : Vc) (m : Mg) (P R : List (List UInt8)) (d : List UInt8) (ub up pv qv : Value) (F1 F2 H H2 : Nat → Prop) (w : World) (hKS : KS w) (hV : in64w V.n ∧ V.m < 65536) (hm : MgIn m) (_hub : Rd w F1 ub (bys m.b)) (_hup : Rd w F2 up (tx m.ps)) (hp : Rd w H pv (tx P)) (hq : Rd w H2 qv (tx R)) (hd : d.length = 32) :
    Calls Tryd.prog 5 #[.agg (aK V m ub up).toArray, .agg (bvs d).toArray, .agg #[pv, qv]] w fun e w' => e = .returned (.bool true) ∧ Below w.heap.size w w' := by
  obtain ⟨n, M⟩ := V
  obtain ⟨A, c, rfl, hcA, hcm⟩ := hp.slShape
  obtain ⟨Aq, cq, rfl, _, _⟩ := hq.slShape
  obtain ⟨W0, hW0, b3, b4, b5, hB⟩ := alloc3 w 32 26 51 (aK ⟨n, M⟩ m ub up) (bvs d) [.slice A P.length c, .slice Aq R.length cq]
  have Hmv : Hid (∀ j v, ([.int .i64 n, .int .u16 (M : Int)] : List Value)[j]? = some v → (aK ⟨n, M⟩ m ub up)[0 + j]? = some v) := fun j v h => ak_v (V := ⟨n, M⟩) h
  have Hmm : Hid (∀ j v, (m.l ub up)[j]? = some v → (aK ⟨n, M⟩ m ub up)[2 + j]? = some v) := fun j v h => ak_m h
  have Hlo := hid (long17_any P (.slice A P.length c) H)
  have Hlo2 := hid (long17_any R (.slice Aq R.length cq) H2)
  obtain ⟨la, hla⟩ : ∃ l, l = aK ⟨n, M⟩ m ub up := ⟨_, rfl⟩
  obtain ⟨ld, hld⟩ : ∃ l, l = bvs d := ⟨_, rfl⟩
  have Hld := hid hld
  have Ld : Hid (ld.length = 32) := hid (by rw [hld, len_bvs]; exact hd)
  have Od : Hid (∀ v ∈ ld, v.oneCell' = true) := hid (by rw [hld]; exact oneCell_bvs _)
  rw [← hla] at hW0 b3 Hmv Hmm ⊢
  rw [← hld] at hW0 b4 ⊢
  clear hla hld
  go_enter Tryd.func5, Tryd.ntmps5
  go_upto_region 1 with (fail)
  first | rw [← hW0] | (simp only [List.toArray] at hW0 ⊢; rw [← hW0])
  clear hW0
  have hs0 := hB.size
  obtain ⟨g5, hg5⟩ : ∃ g, g = w.heap.size + 1 + 1 := ⟨_, rfl⟩
  rw [← hg5] at b5 ⊢
  obtain ⟨g4, hg4⟩ : ∃ g, g = w.heap.size + 1 := ⟨_, rfl⟩
  rw [← hg4] at b4 ⊢
  obtain ⟨g3, hg3⟩ : ∃ g, g = w.heap.size := ⟨_, rfl⟩
  rw [← hg3] at b3 ⊢
  clear hg3 hg4 hg5
  go_wp2_with (fail)
  refine (wakes17_any _ (hKS.below hB)).mono ?_
  rintro e w1 ⟨rfl, hB1⟩
  have b3 := b3.below hB1
  have b4 := b4.below hB1
  have b5 := b5.below hB1
  have hB := hB.trans (hB1.mono hB.size)
  clear hB1
  have c50 := b5.cellAt 0 _ rfl
  go_wp2_with (fail)
  refine (Hlo.out _ (hp.below hB)).mono ?_
  rintro e w2 ⟨rfl, hB2⟩
  have b3 := b3.below hB2
  have b4 := b4.below hB2
  have b5 := b5.below hB2
  have hB := hB.trans (hB2.mono hB.size)
  clear hB2 Hlo c50
  cases hL : longC P with
  | true =>
    clear hL
    go_wp2
    go_ret
    exact ⟨rfl, hB⟩
  | false =>
    have hbd := longC_bd hL
    clear hL
    have c51 := b5.cellAt 1 _ rfl
    go_wp2_with (fail)
    refine (Hlo2.out _ (hq.below hB)).mono ?_
    rintro e w3 ⟨rfl, hB3⟩
    have b3 := b3.below hB3
    have b4 := b4.below hB3
    have b5 := b5.below hB3
    have hB := hB.trans (hB3.mono hB.size)
    clear hB3 Hlo2 c51
    cases hL2 : longC R with
    | true =>
      clear hL2
      go_wp2
      go_ret
      exact ⟨rfl, hB⟩
    | false =>
      have hbd2 := longC_bd hL2
      clear hL2
      have HPs : Hid (PsSm P) := hid ⟨by omega, fun X hX => by have := hbd.2 X hX; omega⟩
      have HRs : Hid (PsSm R) := hid ⟨by omega, fun X hX => by have := hbd2.2 X hX; omega⟩
      clear hbd hbd2
      go_wp2_with (fail)
      refine (table17_any _).mono ?_
      rintro e x0 ⟨uk, rfl, hk, hB4⟩
      have b3 := b3.below hB4
      have b4 := b4.below hB4
      have b5 := b5.below hB4
      have hB := hB.trans (hB4.mono hB.size)
      obtain ⟨Ak, ck, rfl, _, _⟩ := hk.slShape
      go_wp2_with (refine wp_newst 37 7 (.tmp 25) rfl rfl rfl rfl rfl rfl zeroKs17 (l := [.slice Ak ks17.length ck, .slice none 0 0]) rfl rfl sizeKs17 (by intro v hv; simp at hv; rcases hv with rfl | rfl <;> rfl) (by simp) ?_; intro w4 b7 hB5 hs5; refine wp_stop ?_)
      have b3 := b3.below hB5
      have b4 := b4.below hB5
      have b5 := b5.below hB5
      have hk := hk.below hB5
      have hB := hB.trans (hB5.mono hB.size)
      obtain ⟨g7, hg7⟩ : ∃ g, g = x0.heap.size := ⟨_, rfl⟩
      rw [← hg7] at b7 ⊢
      clear hB4 hB5 hs5 hg7
      refine wp_go ?_
      have Hw3 : Hid (∀ Z, Ch nob w4 Z → Z.cell? ⟨g3, 5, none⟩ = some (.int .i64 m.r)) := fun Z h => (b3.below h.below).cellAt 5 _ (Hmm.out 3 _ rfl)
      have Hw4 : Hid (∀ Z, Ch nob w4 Z → Z.cell? ⟨g3, 6, none⟩ = some (.int .i64 m.s)) := fun Z h => (b3.below h.below).cellAt 6 _ (Hmm.out 4 _ rfl)
      have Hp0 : Hid (∀ Z, Ch nob w4 Z → Z.cell? ⟨g5, 0, none⟩ = some (.slice A P.length c)) := fun Z h => (b5.below h.below).cellAt 0 _ rfl
      have Hp1 : Hid (∀ Z, Ch nob w4 Z → Z.cell? ⟨g5, 1, none⟩ = some (.slice Aq R.length cq)) := fun Z h => (b5.below h.below).cellAt 1 _ rfl
      have XH : Hid (∀ Z, Ch nob w4 Z → Z.rangeAt g3 7 (bvs m.h)) := fun Z h => (b3.below h.below).range 7 _ (fun j v hv => by
        have := Hmm.out (5 + j) v (mg_hash hm.h _ _ j v hv)
        rw [← Nat.add_assoc] at this
        exact this)
      have XD : Hid (∀ Z, Ch nob w4 Z → Z.rangeAt g4 0 ld) := fun Z h => (b4.below h.below).whole
      have XK : Hid (∀ Z, Ch nob w4 Z → Z.rangeAt g7 0 [.slice Ak ks17.length ck, .slice none 0 0]) := fun Z h => (b7.below h.below).whole
      have XV : Hid (∀ Z, Ch nob w4 Z → Z.rangeAt g3 0 [.int .i64 n, .int .u16 (M : Int)]) := fun Z h => (b3.below h.below).range 0 _ Hmv.out
      have Lh : Hid ((bvs m.h).length = 32) := hid (by rw [len_bvs]; exact hm.h)
      have hK4 := hKS.below hB
      have hp4 := hp.below hB
      have hq4 := hq.below hB
      have Hcw := hid (fun Y h1 h2 h3 => cwri17_any ks17 ⟨n, M⟩ P m.r m.s m.h (.slice Ak ks17.length ck) (.slice none 0 0) (.slice A P.length c) (fun b => w3.heap.size ≤ b) H Y h1 ks17_sm h2 h3 HPs.out hV ⟨hm.r, hm.s⟩ hm.h)
      have Hcv := hid (fun Y h1 h2 h3 => cwri17_any ks17 ⟨n, M⟩ R m.r m.s d (.slice Ak ks17.length ck) (.slice none 0 0) (.slice Aq R.length cq) (fun b => w3.heap.size ≤ b) H2 Y h1 ks17_sm h2 h3 HRs.out hV ⟨hm.r, hm.s⟩ hd)
      have hwr := wri_two ks17 ⟨n, M⟩ m.r m.s m.h P
      have hwv := wri_two ks17 ⟨n, M⟩ m.r m.s d R
      have Hbl := hid (bldA17 2 n m.r m.s m.h hm.h)
      have Hset := hid (al_hash 2 n m.r m.s m.h d hm.h hd)
      unfold vw at Hcw Hcv
      rw [← Hld.out] at Hcv Hset
      obtain ⟨u, hu⟩ : ∃ u, u = wriC ks17 ⟨n, M⟩ m.r m.s m.h P := ⟨_, rfl⟩
      rw [← hu] at Hcw hwr
      obtain ⟨u2, hu2⟩ : ∃ u, u = wriC ks17 ⟨n, M⟩ m.r m.s d R := ⟨_, rfl⟩
      rw [← hu2] at Hcv hwv
      obtain ⟨lh, hlh⟩ : ∃ l, l = bvs m.h := ⟨_, rfl⟩
      rw [← hlh] at XH Lh Hcw Hbl
      clear hlh hu hu2
      have Hwv := hid hwv
      clear hwv
      have c5 := Hw3.out _ (Ch.refl _ _)
      have c6 := Hw4.out _ (Ch.refl _ _)
      have c50 := Hp0.out _ (Ch.refl _ _)
      go_wp2_with (first | refine wp_ld 37 (.tmp 7) rfl rfl rfl (XK.out _ (Ch.refl _ _)) Tryd.underlying37 rfl sizeKs17 ?_ | refine wp_ld 24 (.tmp 27) rfl rfl rfl (XV.out _ (Ch.refl _ _)) Tryd.underlying24 rfl sizeVw17 ?_ | refine wp_ld 26 (.tmp 36) rfl rfl rfl (XH.out _ (Ch.refl _ _)) Tryd.underlying26 rfl (by rw [Lh.out]; exact size25) ?_)
      refine (Hcw.out _ hK4 hk hp4).mono ?_
      rintro e x1 ⟨rfl, hD1⟩
      clear Hcw c5 c6 c50
      have hBx := hB.trans (hD1.mono hB.size)
      rcases hwr with rfl | ⟨rfl, hokP, henP⟩
      · go_wp2
        go_ret
        exact ⟨rfl, hBx⟩
      · have Hok := hid hokP
        have Hen := hid henP
        clear hokP henP
        have hC1 : Ch nob w4 x1 := Ch.of_below hD1
        have c5 := Hw3.out _ hC1
        have c6 := Hw4.out _ hC1
        have c51 := Hp1.out _ hC1
        go_wp2_with (first | refine wp_ldg 37 (.tmp 7) (by rfl) rfl rfl (XK.out _ hC1) Tryd.underlying37 rfl sizeKs17 ?_ | refine wp_ldg 24 (.tmp 44) (by rfl) rfl rfl (XV.out _ hC1) Tryd.underlying24 rfl sizeVw17 ?_ | refine wp_ldg 26 (.tmp 4) (by rfl) rfl rfl (XD.out _ hC1) Tryd.underlying26 rfl (by rw [Ld.out]; exact size25) ?_)
        refine (Hcv.out _ (hK4.below hD1) (hk.below hD1) (hq4.below hD1)).mono ?_
        rintro e x2 ⟨rfl, hD2⟩
        clear Hcv c5 c6 c51 hC1
        have hBx := hBx.trans (hD2.mono hBx.size)
        have hD := hD1.trans (hD2.mono hD1.size)
        clear hD1 hD2
        rcases Hwv.out with rfl | ⟨rfl, hokR, henR⟩
        · go_wp2
          go_ret
          exact ⟨rfl, hBx⟩
        · have hrg : rgt n M = true := by
            have h := Hok.out
            unfold okC at h
            rw [Bool.and_eq_true] at h
            exact h.1
          have hsh := who_share (ks := ks17) (V := ⟨n, M⟩) (q := ⟨2, n, m.r, m.s, m.h⟩) (q' := ⟨2, n, m.r, m.s, d⟩) (P := P) (P' := R) hrg Hen.out henR
          have hmA : MgIn (aM 2 n m.r m.s m.h) := ⟨by show in64w 2; unfold in64w; omega, by show in64w 0; unfold in64w; omega, hV.1, hm.r, hm.s, hm.h⟩
          have hmB : MgIn (aM 2 n m.r m.s d) := ⟨by show in64w 2; unfold in64w; omega, by show in64w 0; unfold in64w; omega, hV.1, hm.r, hm.s, hd⟩
          have hwa := fun Y h1 h2 h3 => cwho17_any ks17 ⟨n, M⟩ P (aM 2 n m.r m.s m.h) (.slice Ak ks17.length ck) (.slice none 0 0) (.slice A P.length c) (.slice none 0 0) (.slice none 0 0) (fun b => w3.heap.size ≤ b) H nob nob Y h1 ks17_sm h2 h3 HPs.out hV hmA (Rd.nil _ _) (Rd.nil _ _)
          have hwb := fun Y h1 h2 h3 => cwho17_any ks17 ⟨n, M⟩ R (aM 2 n m.r m.s d) (.slice Ak ks17.length ck) (.slice none 0 0) (.slice Aq R.length cq) (.slice none 0 0) (.slice none 0 0) (fun b => w3.heap.size ≤ b) H2 nob nob Y h1 ks17_sm h2 h3 HRs.out hV hmB (Rd.nil _ _) (Rd.nil _ _)
          have hqA : qOf (aM 2 n m.r m.s m.h) = ⟨2, n, m.r, m.s, m.h⟩ := rfl
          have hqB : qOf (aM 2 n m.r m.s d) = ⟨2, n, m.r, m.s, d⟩ := rfl
          rw [hqA] at hwa
          rw [hqB] at hwb
          unfold vw at hwa hwb
          have hl1 := who_len ks17 ⟨n, M⟩ ⟨2, n, m.r, m.s, m.h⟩ P
          have hl2 := who_len ks17 ⟨n, M⟩ ⟨2, n, m.r, m.s, d⟩ R
          have Hnd := hid (who_nodup ks17 ⟨n, M⟩ ⟨2, n, m.r, m.s, d⟩ R)
          have Lm := hid (len_aL 2 n m.r m.s m.h hm.h)
          have Om := hid (one_aL 2 n m.r m.s m.h)
          have Ln := hid (len_aL 2 n m.r m.s d hd)
          obtain ⟨L1, hL1⟩ : ∃ l, l = whoC ks17 ⟨n, M⟩ ⟨2, n, m.r, m.s, m.h⟩ P := ⟨_, rfl⟩
          obtain ⟨L2, hL2⟩ : ∃ l, l = whoC ks17 ⟨n, M⟩ ⟨2, n, m.r, m.s, d⟩ R := ⟨_, rfl⟩
          rw [← hL1] at hwa hl1 hsh
          rw [← hL2] at hwb hl2 hsh Hnd
          obtain ⟨lm, hlm1⟩ : ∃ l, l = aL 2 n m.r m.s m.h := ⟨_, rfl⟩
          have hlm2 : (aM 2 n m.r m.s m.h).l (.slice none 0 0) (.slice none 0 0) = lm := hlm1.symm
          obtain ⟨ln, hln1⟩ : ∃ l, l = aL 2 n m.r m.s d := ⟨_, rfl⟩
          have hln2 : (aM 2 n m.r m.s d).l (.slice none 0 0) (.slice none 0 0) = ln := hln1.symm
          rw [hlm2] at hwa
          rw [hln2] at hwb
          rw [← hlm1] at Lm Om Hbl Hset
          rw [← hln1] at Ln Hset
          have Hwa := hid hwa
          have Hwb := hid hwb
          have Hsh : Hid (fltN n M < totC L1 L2 L1.length) := hid (by rw [totC_all]; exact hsh)
          have Hfl := hid (fun Y => (show Calls Tryd.prog 20 #[.agg #[.int .i64 n, .int .u16 (M : Int)]] Y (fun e w' => e = .returned (.int .i64 (fltN n M : Int)) ∧ Below Y.heap.size Y w') from rflt_any n M Y hV.2))
          clear hrg hsh hmA hmB hwa hwb hqA hqB hL1 hL2 hlm1 hlm2 hln1 hln2 Hok Hen hokR henR Hwv Hld
          have hC2 : Ch nob w4 x2 := Ch.of_below hD
          have hs4 := hB.size
          have hs2 := hD.size
          have c0 : x2.cell? ⟨g3, 0, none⟩ = some (.int .i64 n) := XV.out _ hC2 0 _ rfl
          have c5 := Hw3.out _ hC2
          have c6 := Hw4.out _ hC2
          have hbl := Hbl.out
          go_wp2_with (first | refine wp_ld 26 (.tmp 68) rfl rfl rfl (XH.out _ hC2) Tryd.underlying26 rfl (by rw [Lh.out]; exact size25) ?_ | refine wp_bld 30 [(0, .const (.int .i64 2)), (2, .tmp 60), (3, .tmp 63), (4, .tmp 66), (5, .tmp 69)] rfl rfl [(0, .int .i64 2), (2, .int .i64 n), (3, .int .i64 m.r), (4, .int .i64 m.s), (5, .agg lh.toArray)] rfl hbl ?_ | (refine wp_newst 30 8 (.tmp 70) rfl rfl rfl rfl rfl rfl zeroM (l := lm) rfl (by rw [Lm.out]; rfl) (by rw [Lm.out]; exact sizeM) Om.out (by simp [Act.put]) ?_; intro x3 b8 hD3 hs3; refine wp_stop ?_))
          have hBx := hBx.trans (hD3.mono hBx.size)
          have hD := hD.trans (hD3.mono hD.size)
          obtain ⟨g8, hg8⟩ : ∃ g, g = x2.heap.size := ⟨_, rfl⟩
          rw [← hg8] at b8 ⊢
          clear hg8 hs3 hD3 c0 c5 c6 hC2 hbl Hbl hs2
          have h89 := b8.lt
          refine wp_go ?_
          go_wp2_with (first | refine wp_ld 30 (.tmp 8) rfl rfl rfl b8.whole Tryd.underlying30 rfl (by rw [Lm.out]; exact sizeM) ?_ | (refine wp_newst 30 9 (.tmp 71) rfl rfl rfl rfl rfl rfl zeroM (l := lm) rfl (by rw [Lm.out]; rfl) (by rw [Lm.out]; exact sizeM) Om.out (by simp [Act.put]) ?_; intro x4 b9 hD4 hs5; refine wp_stop ?_))
          have hs3 := hD.size
          have b8 := b8.below hD4
          have hBx := hBx.trans (hD4.mono hBx.size)
          have hD := hD.trans (hD4.mono hD.size)
          obtain ⟨g9, hg9⟩ : ∃ g, g = x3.heap.size := ⟨_, rfl⟩
          rw [← hg9] at b9 h89 hs3 ⊢
          clear hg9 hs5 hD4
          have hC4 : Ch nob w4 x4 := Ch.of_below hD
          refine wp_go ?_
          go_wp2_with (first | refine wp_ld 26 (.tmp 4) rfl rfl rfl (XD.out _ hC4) Tryd.underlying26 rfl (by rw [Ld.out]; exact size25) ?_ | (refine wp_st 26 (.tmp 73) (.tmp 72) rfl rfl rfl (f := 5) rfl (l := ld) rfl b9 (by rw [Ld.out, Lm.out]; omega) (by rw [Ld.out]; exact size25) Od.out ?_; intro x5 k9 G5; refine wp_stop ?_))
          rw [Hset.out] at k9
          have b8 := b8.keep (G5.block _ b8.lt (by intro e; injection e with e; omega))
          have hBx := hBx.grown G5 hBx.size (fun k hk => by injection hk with hk; omega)
          have hC5 : Ch nob w4 x5 := ((hC4.weaken (G' := fun b => b = g9) (fun _ _ e => e.elim)).grow G5 (fun k hk => by injection hk with hk; exact .inl hk.symm)).weaken (fun b hb e => by have e : b = g9 := e; omega)
          have hD5 : Below w4.heap.size w4 x5 := hC5.below
          have XM8 : Hid (∀ Z, Ch nob x5 Z → Z.rangeAt g8 0 lm) := fun Z h => (b8.below h.below).whole
          have XM9 : Hid (∀ Z, Ch nob x5 Z → Z.rangeAt g9 0 ln) := fun Z h => (k9.below h.below).whole
          have c50 := Hp0.out _ hC5
          clear b9 k9 G5 hC4 hD h89 hs3 Hset
          refine wp_go ?_
          go_wp2_with (first | refine wp_ld 37 (.tmp 7) rfl rfl rfl (XK.out _ hC5) Tryd.underlying37 rfl sizeKs17 ?_ | refine wp_ld 24 (.tmp 75) rfl rfl rfl (XV.out _ hC5) Tryd.underlying24 rfl sizeVw17 ?_ | refine wp_ld 30 (.tmp 8) rfl rfl rfl (XM8.out _ (Ch.refl _ _)) Tryd.underlying30 rfl (by rw [Lm.out]; exact sizeM) ?_)
          refine (Hwa.out _ (hK4.below hD5) (hk.below hD5) (hp4.below hD5)).mono ?_
          rintro e x6 ⟨v6, rfl, ho6, hE6⟩
          obtain ⟨A6, k6, rfl⟩ := own_shape ho6
          have hBx := hBx.trans (hE6.mono hBx.size)
          clear c50 Hwa
          go_wp2
          go_loopw [10, 82] (fun bv iv wr => ∃ i b : Nat, i ≤ L1.length ∧ iv = .int .i64 i ∧ bv = .int .i64 b ∧ Hid (b = totC L1 L2 i) ∧ b ≤ 16 * i ∧ Below x6.heap.size x6 wr) (fun _ i _ => L1.length - (intOf i).toNat)
          case atStart => exact ⟨0, 0, by omega, rfl, rfl, hid rfl, by omega, Below.refl _ _⟩
          case round =>
            obtain ⟨i, b, hi, rfl, rfl, Hb, hb16, hBr⟩ := hrel
            have hR := hE6.trans (hBr.mono hE6.size)
            have hC5r : Ch nob x5 wr := Ch.of_below hR
            have hCr : Ch nob w4 wr := hC5.trans hC5r
            have hDr : Below w4.heap.size w4 wr := hCr.below
            have hBxr := hBx.trans (hBr.mono hBx.size)
            by_cases hlt : i < L1.length
            · have hI : (i : Int) < (L1.length : Int) := by omega
              obtain ⟨x, hx⟩ : ∃ x, L1[i]? = some x := ⟨_, List.getElem?_eq_getElem hlt⟩
              obtain ⟨h6, c6', e6, hc6⟩ := own_int (own_bel ho6 hBr) (by omega)
              injection e6 with e6 _ _
              subst e6
              have c1 := hc6 i x hx
              have c51 := Hp1.out _ hCr
              have Hnx := hid (totC_next (B := L2) hx Hnd.out)
              clear hx hc6
              go_wp2_with (first | refine wp_ld 37 (.tmp 7) rfl rfl rfl (XK.out _ hCr) Tryd.underlying37 rfl sizeKs17 ?_ | refine wp_ld 24 (.tmp 87) rfl rfl rfl (XV.out _ hCr) Tryd.underlying24 rfl sizeVw17 ?_ | refine wp_ld 30 (.tmp 9) rfl rfl rfl (XM9.out _ hC5r) Tryd.underlying30 rfl (by rw [Ln.out]; exact sizeM) ?_)
              refine (Hwb.out _ (hK4.below hDr) (hk.below hDr) (hq4.below hDr)).mono ?_
              rintro e x7 ⟨v7, rfl, ho7, hE7⟩
              obtain ⟨A7, k7, rfl⟩ := own_shape ho7
              have hR7 := hBr.trans (hE7.mono hBr.size)
              clear c1 c51
              go_wp2
              go_loopw [10, 94] (fun bv jv wr => ∃ j b' : Nat, j ≤ L2.length ∧ jv = .int .i64 j ∧ bv = .int .i64 b' ∧ Hid (b' = b + mtk x L2 j) ∧ b' ≤ b + j ∧ Below x7.heap.size x7 wr) (fun _ j _ => L2.length - (intOf j).toNat)
              case atStart => exact ⟨0, b, by omega, rfl, rfl, hid rfl, by omega, Below.refl _ _⟩
              case round =>
                obtain ⟨j, b', hj, rfl, rfl, Hb', hbj, hBj⟩ := hrel
                by_cases hjl : j < L2.length
                · have hJ : (j : Int) < (L2.length : Int) := by omega
                  obtain ⟨y, hy⟩ : ∃ y, L2[j]? = some y := ⟨_, List.getElem?_eq_getElem hjl⟩
                  obtain ⟨h7, c7', e7, hc7⟩ := own_int (own_bel ho7 hBj) (by omega)
                  injection e7 with e7 _ _
                  subst e7
                  have c2 := hc7 j y hy
                  have hn2 := mtk_next (x := x) hy
                  clear hy hc7
                  by_cases hxy : x = y
                  · rw [if_pos hxy] at hn2
                    have Hn2 := hid hn2
                    have hEq : ((x : Int) == (y : Int)) = true := by rw [hxy]; simp
                    clear hn2 hxy
                    go_wp2
                    go_roundw
                    case rel => exact ⟨j + 1, b' + 1, by omega, by go_num, by go_num, hid (by rw [Hn2.out, Hb'.out]; omega), by omega, hBj⟩
                    case measure => simp [intOf]; omega
                  · rw [if_neg hxy] at hn2
                    have Hn2 := hid hn2
                    have hEq : ((x : Int) == (y : Int)) = false := by simp; omega
                    clear hn2 hxy
                    go_wp2
                    go_roundw
                    case rel => exact ⟨j + 1, b', by omega, by go_num, rfl, hid (by rw [Hn2.out, Hb'.out]; omega), by omega, hBj⟩
                    case measure => simp [intOf]; omega
                · have hj' : j = L2.length := by omega
                  subst hj'
                  have hJ : ¬ (L2.length : Int) < (L2.length : Int) := by omega
                  have hRj := hR7.trans (hBj.mono hR7.size)
                  go_wp2
                  go_roundw
                  case rel => exact ⟨_, _, _, _, ⟨i + 1, by omega, by go_num, b', rfl, hid (by rw [Hnx.out, Hb'.out, Hb.out]), by omega⟩, rfl, rfl, rfl, rfl⟩
                  case measure => simp [intOf]; omega
            · have hi' : i = L1.length := by omega
              subst hi'
              have hI : ¬ (L1.length : Int) < (L1.length : Int) := by omega
              have hgt : (fltN n M : Int) < (b : Int) := by
                have h1 := Hsh.out
                rw [← Hb.out] at h1
                omega
              go_wp2_with (first | refine wp_ld 24 (.tmp 106) rfl rfl rfl (XV.out _ hCr) Tryd.underlying24 rfl sizeVw17 ?_)
              refine (Hfl.out _).mono ?_
              rintro e x8 ⟨rfl, hE8⟩
              have hBy := hBxr.trans (hE8.mono hBxr.size)
              go_wp2
              go_ret
              exact ⟨by simp, hBy⟩
end Go.Proofs.YtddeeigdcolegaaDoor
