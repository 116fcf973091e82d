/- C7: layer 17: CertsLeast. -/
import Derived.Test.YtddeeigdcolegaaDoorC3
namespace Go.Proofs.YtddeeigdcolegaaDoor
open Go.RowKit Go.V
theorem dec_cases (ks : List (List UInt8)) (V : Vc) (s : Int) (h : List UInt8) (P : List (List UInt8)) : decC ks V s h P = (0, 12) ∨ ∃ r : Nat, decC ks V s h P = ((r : Int), 0) ∧ okC V P = true ∧ leaC ks V s h P = some r := by
  unfold decC
  by_cases hok : okC V P = true
  · rw [if_pos hok]
    cases hl : leaC ks V s h P with
    | none => exact .inl rfl
    | some r => exact .inr ⟨r, rfl, hok, rfl⟩
  · rw [if_neg hok]
    exact .inl rfl
theorem dec_of {ks : List (List UInt8)} {V : Vc} {s : Int} {h : List UInt8} {P : List (List UInt8)} {r : Nat} (hok : okC V P = true) (hl : leaC ks V s h P = some r) : decC ks V s h P = ((r : Int), 0) := by
  unfold decC
  rw [if_pos hok, hl]
theorem ok_pick {ks : List (List UInt8)} {V : Vc} {q : Qc} {P : List (List UInt8)} (hok : okC V P = true) : okC V (pickC ks V q P) = true := by
  unfold okC at hok ⊢
  rw [Bool.and_eq_true, decide_eq_true_eq] at hok ⊢
  exact ⟨hok.1, pick_len ks V q P⟩
theorem al_set (n r s x : Int) (h : List UInt8) : (aL 3 n r s h).set 3 (.int .i64 x) = aL 3 n x s h := rfl
theorem sizeI17 : (Tryd.prog.info? 3).map (·.size) = some 1 := by kernel_rfl
set_option maxRecDepth 100000 in
set_option maxHeartbeats 16000000 in
theorem certsLeast_law (V : Vc) (m : Mg) (P : List (List UInt8)) (ub up pv : Value) (F1 F2 H : Nat → Prop) (w : World) (hKS : KS w) (hV : in64w V.n ∧ V.m < 65536) (hm : MgIn m) (hub : Rd w F1 ub (bys m.b)) (hup : Rd w F2 up (tx m.ps)) (hp : Rd w H pv (tx P)) :
    Calls Tryd.prog 7 #[.agg (aK V m ub up).toArray, pv] w fun e w' => e = .returned (.bool true) ∧ Below w.heap.size w w' := by
  obtain ⟨n, M⟩ := V
  obtain ⟨A, c, rfl, hcA, hcm⟩ := hp.slShape
  have hb2 := Blk.new' w 32 (aK ⟨n, M⟩ m ub up)
  have hB : Below w.heap.size w (w.alloc (.cells (aK ⟨n, M⟩ m ub up).toArray 32)) := (Below.refl _ _).alloc (Nat.le_refl _) _
  have Hmv : Hid (∀ j v, ([.int .i64 n, .int .u16 (M : Int)] : List Value)[j]? = some v → (aK ⟨n, M⟩ m ub up)[0 + j]? = some v) := fun j v h => ak_v (V := ⟨n, M⟩) h
  have Hmm : Hid (∀ j v, (m.l ub up)[j]? = some v → (aK ⟨n, M⟩ m ub up)[2 + j]? = some v) := fun j v h => ak_m h
  have hlm : (m.l ub up).length = 39 := len_mg hm.h _ _
  have Hlm := hid hlm
  have Hlo := hid (long17_any P (.slice A P.length c) H)
  obtain ⟨la, hla⟩ : ∃ l, l = aK ⟨n, M⟩ m ub up := ⟨_, rfl⟩
  rw [← hla] at hb2 hB Hmv Hmm ⊢
  clear hla
  go_enter Tryd.func7, Tryd.ntmps7
  go_wp2_with (fail)
  obtain ⟨w0, hw0⟩ : ∃ x, x = w.alloc (.cells la.toArray 32) := ⟨_, rfl⟩
  rw [← hw0] at hb2 hB ⊢
  obtain ⟨g2, hg2⟩ : ∃ g, g = w.heap.size := ⟨_, rfl⟩
  rw [← hg2] at hb2 ⊢
  clear hw0 hg2
  refine (wakes17_any _ (hKS.below hB)).mono ?_
  rintro e w1 ⟨rfl, hB1⟩
  have hb2 := hb2.below hB1
  have hB := hB.trans (hB1.mono hB.size)
  clear hB1
  go_wp2_with (fail)
  refine (Hlo.out _ (hp.below hB)).mono ?_
  rintro e w2 ⟨rfl, hB2⟩
  have hb2 := hb2.below hB2
  have hB := hB.trans (hB2.mono hB.size)
  clear hB2 Hlo
  cases hL : longC P with
  | true =>
    clear hL
    go_wp2
    go_ret
    exact ⟨rfl, hB⟩
  | false =>
    have hbd := longC_bd hL
    have hPs : PsSm P := ⟨by omega, fun X hX => by have := hbd.2 X hX; omega⟩
    have HPs := hid hPs
    have hP24 := hbd.1
    have HPl : Hid (∀ X ∈ P, X.length ≤ 1000000) := fun X hX => by have := hbd.2 X hX; omega
    clear hL hbd hPs
    go_wp2_with (fail)
    refine (table17_any _).mono ?_
    rintro e w3 ⟨uk, rfl, hk, hB3⟩
    have hb2 := hb2.below hB3
    have hB := hB.trans (hB3.mono hB.size)
    obtain ⟨Ak, ck, rfl, _, _⟩ := hk.slShape
    go_wp2_with (refine wp_newst 37 5 (.tmp 17) rfl rfl rfl rfl rfl rfl zeroKs17 (l := [.slice Ak ks17.length ck, .slice none 0 0]) rfl rfl sizeKs17 (by intro v hv; simp at hv; rcases hv with rfl | rfl <;> rfl) (by simp) ?_; intro w4 b5 hB4 hs4; refine wp_stop ?_)
    have hb2 := hb2.below hB4
    have hk := hk.below hB4
    have hB := hB.trans (hB4.mono hB.size)
    obtain ⟨g5, hg5⟩ : ∃ g, g = w3.heap.size := ⟨_, rfl⟩
    rw [← hg5] at b5 ⊢
    clear hB3 hB4 hs4 hg5
    refine wp_go ?_
    have Hw3 : Hid (∀ Z, Ch nob w4 Z → Z.cell? ⟨g2, 5, none⟩ = some (.int .i64 m.r)) := fun Z h => (hb2.below h.below).cellAt 5 _ (Hmm.out 3 _ rfl)
    have Hw4 : Hid (∀ Z, Ch nob w4 Z → Z.cell? ⟨g2, 6, none⟩ = some (.int .i64 m.s)) := fun Z h => (hb2.below h.below).cellAt 6 _ (Hmm.out 4 _ rfl)
    have XH : Hid (∀ Z, Ch nob w4 Z → Z.rangeAt g2 7 (bvs m.h)) := fun Z h => (hb2.below h.below).range 7 _ (fun j v hv => by
      have := Hmm.out (5 + j) v (mg_hash hm.h _ _ j v hv)
      rw [← Nat.add_assoc] at this
      exact this)
    have XK : Hid (∀ Z, Ch nob w4 Z → Z.rangeAt g5 0 [.slice Ak ks17.length ck, .slice none 0 0]) := fun Z h => (b5.below h.below).whole
    have XV : Hid (∀ Z, Ch nob w4 Z → Z.rangeAt g2 0 [.int .i64 n, .int .u16 (M : Int)]) := fun Z h => (hb2.below h.below).range 0 _ Hmv.out
    have Lh : Hid ((bvs m.h).length = 32) := hid (by rw [len_bvs]; exact hm.h)
    have hK4 := hKS.below hB
    have hp4 := hp.below hB
    have hub4 := hub.below hB
    have hup4 := hup.below hB
    have Hcd := hid (fun Y h1 h2 h3 => cdec17_any ks17 ⟨n, M⟩ P m.s m.h (.slice Ak ks17.length ck) (.slice none 0 0) (.slice A P.length c) (fun b => w2.heap.size ≤ b) H Y h1 ks17_sm h2 h3 HPs.out hV hm.s hm.h)
    have hdc := dec_cases ks17 ⟨n, M⟩ m.s m.h P
    unfold vw at Hcd
    obtain ⟨Z, hZ⟩ : ∃ Z, Z = decC ks17 ⟨n, M⟩ m.s m.h P := ⟨_, rfl⟩
    rw [← hZ] at Hcd hdc
    obtain ⟨lh, hlh⟩ : ∃ l, l = bvs m.h := ⟨_, rfl⟩
    rw [← hlh] at XH Lh Hcd
    have Hlh := hid hlh
    clear hZ hlh hlm
    have c6 := Hw4.out _ (Ch.refl _ _)
    go_wp2_with (first | refine wp_ld 37 (.tmp 5) rfl rfl rfl (XK.out _ (Ch.refl _ _)) Tryd.underlying37 rfl sizeKs17 ?_ | refine wp_ld 24 (.tmp 20) rfl rfl rfl (XV.out _ (Ch.refl _ _)) Tryd.underlying24 rfl sizeVw17 ?_ | refine wp_ld 26 (.tmp 26) rfl rfl rfl (XH.out _ (Ch.refl _ _)) Tryd.underlying26 rfl (by rw [Lh.out]; exact size25) ?_)
    refine (Hcd.out _ hK4 hk hp4).mono ?_
    rintro e x1 ⟨rfl, hD1⟩
    have hBx := hB.trans (hD1.mono hB.size)
    rcases hdc with hz | ⟨r, hz, hok, hlea⟩
    · rw [hz]
      clear hz
      go_wp2
      go_ret
      exact ⟨rfl, hBx⟩
    · obtain ⟨hr40, hen, hno⟩ := lea_some hlea
      have hpk := lea_pick hlea
      have hok2 := ok_pick (ks := ks17) (q := ⟨3, n, (r : Int), m.s, m.h⟩) hok
      have hkl := pick_len ks17 ⟨n, M⟩ ⟨3, n, (r : Int), m.s, m.h⟩ P
      have hks2 : ∀ X ∈ pickC ks17 ⟨n, M⟩ ⟨3, n, (r : Int), m.s, m.h⟩ P, X.length ≤ 1000 := fun X hX => HPs.out.t X (pick_sub X hX)
      have hd2 := dec_of hok2 hpk
      have hmA : ∀ k : Nat, k ≤ 40 → MgIn (aM 3 n (k : Int) m.s m.h) := fun k hk => ⟨by show in64w 3; unfold in64w; omega, by show in64w 0; unfold in64w; omega, hV.1, by show in64w (k : Int); unfold in64w; omega, hm.s, hm.h⟩
      have Hcp := hid (fun Y h1 h2 h3 => cpick17_any ks17 ⟨n, M⟩ P (aM 3 n (r : Int) m.s m.h) (.slice Ak ks17.length ck) (.slice none 0 0) (.slice A P.length c) (.slice none 0 0) (.slice none 0 0) (fun b => w2.heap.size ≤ b) H nob nob Y h1 ks17_sm h2 h3 HPs.out hV (hmA r hr40) (Rd.nil _ _) (Rd.nil _ _))
      have hcd2 := fun v F Y h1 h2 h3 => cdec17_any ks17 ⟨n, M⟩ (pickC ks17 ⟨n, M⟩ ⟨3, n, (r : Int), m.s, m.h⟩ P) m.s m.h (.slice Ak ks17.length ck) (.slice none 0 0) v (fun b => w2.heap.size ≤ b) F Y h1 ks17_sm h2 h3 ⟨by omega, hks2⟩ hV hm.s hm.h
      rw [hd2] at hcd2
      have Hcd2 := hid hcd2
      have Hcw := hid (fun (k : Nat) (hk : k ≤ 40) Y h1 h2 h3 => cwho17_any ks17 ⟨n, M⟩ P (aM 3 n (k : Int) m.s m.h) (.slice Ak ks17.length ck) (.slice none 0 0) (.slice A P.length c) (.slice none 0 0) (.slice none 0 0) (fun b => w2.heap.size ≤ b) H nob nob Y h1 ks17_sm h2 h3 HPs.out hV (hmA k hk) (Rd.nil _ _) (Rd.nil _ _))
      have Hqu := hid (fun Y => (show Calls Tryd.prog 21 #[.agg #[.int .i64 n, .int .u16 (M : Int)]] Y (fun e w' => e = .returned (.int .i64 (quoN n M : Int)) ∧ Below Y.heap.size Y w') from rquo_any n M Y hV.2))
      have Hno : Hid (∀ k : Nat, k < r → ¬ quoN n M ≤ (whoC ks17 ⟨n, M⟩ ⟨3, n, (k : Int), m.s, m.h⟩ P).length) := hid (fun k hk he => by have := hno k hk; unfold enC at this; rw [decide_eq_true he] at this; cases this)
      have hbl := bldA17 3 n (r : Int) m.s m.h hm.h
      have Lm := hid (fun (k : Int) => len_aL 3 n k m.s m.h hm.h)
      have Om := hid (fun (k : Int) => one_aL 3 n k m.s m.h)
      have Hset := hid (fun (k x : Int) => al_set n k m.s x m.h)
      rw [hz]
      rw [← Hlh.out] at hbl
      obtain ⟨lm, hlm'⟩ : ∃ f : Int → List Value, f = fun k => aL 3 n k m.s m.h := ⟨_, rfl⟩
      have hbl : ∀ W : World, (Instr.build 30 [(0, .int .i64 3), (2, .int .i64 n), (3, .int .i64 (r : Int)), (4, .int .i64 m.s), (5, .agg lh.toArray)].toArray).run Tryd.prog W = .ok (.agg (lm (r : Int)).toArray) W := by rw [hlm']; exact hbl
      have Lm : Hid (∀ k, (lm k).length = 39) := by rw [hlm']; exact Lm
      have Om : Hid (∀ k, ∀ v ∈ lm k, v.oneCell' = true) := by rw [hlm']; exact Om
      have Hset : Hid (∀ k x, (lm k).set 3 (.int .i64 x) = lm x) := by rw [hlm']; exact Hset
      obtain ⟨KP, hKP⟩ : ∃ k, k = pickC ks17 ⟨n, M⟩ ⟨3, n, (r : Int), m.s, m.h⟩ P := ⟨_, rfl⟩
      obtain ⟨LW, hLW⟩ : ∃ f : Nat → List Nat, f = fun (k : Nat) => whoC ks17 ⟨n, M⟩ ⟨3, n, (k : Int), m.s, m.h⟩ P := ⟨_, rfl⟩
      have Hcp : Hid (∀ Y, KS Y → Rd Y (fun b => w2.heap.size ≤ b) (.slice Ak ks17.length ck) (tx ks17) → Rd Y H (.slice A P.length c) (tx P) → Calls Tryd.prog 14 #[.agg #[.slice Ak ks17.length ck, .slice none 0 0], .agg #[.int .i64 n, .int .u16 (M : Int)], .agg (lm (r : Int)).toArray, .slice A P.length c] Y fun e w' => ∃ v', e = .returned v' ∧ Rd w' (fun b => H b ∨ Y.heap.size ≤ b) v' (tx KP) ∧ Below Y.heap.size Y w') := by rw [hlm', hKP]; exact Hcp
      have Hcd2 : Hid (∀ v F Y, KS Y → Rd Y (fun b => w2.heap.size ≤ b) (.slice Ak ks17.length ck) (tx ks17) → Rd Y F v (tx KP) → Calls Tryd.prog 16 #[.agg #[.slice Ak ks17.length ck, .slice none 0 0], .agg #[.int .i64 n, .int .u16 (M : Int)], .int .i64 m.s, .agg lh.toArray, v] Y fun e w' => e = .returned (.tuple #[.int .i64 (r : Int), .int .i64 0]) ∧ Below Y.heap.size Y w') := by rw [hKP, Hlh.out]; exact Hcd2
      have Hcw : Hid (∀ (k : Nat) (hk : k ≤ 40) Y, KS Y → Rd Y (fun b => w2.heap.size ≤ b) (.slice Ak ks17.length ck) (tx ks17) → Rd Y H (.slice A P.length c) (tx P) → Calls Tryd.prog 11 #[.agg #[.slice Ak ks17.length ck, .slice none 0 0], .agg #[.int .i64 n, .int .u16 (M : Int)], .agg (lm (k : Int)).toArray, .slice A P.length c] Y fun e w' => ∃ v', e = .returned v' ∧ NewI Y w' v' (LW k)) := by rw [hlm', hLW]; exact Hcw
      have Hno : Hid (∀ k : Nat, k < r → ¬ quoN n M ≤ (LW k).length) := by rw [hLW]; exact Hno
      have c0 : x1.cell? ⟨g2, 0, none⟩ = some (.int .i64 n) := XV.out _ (Ch.of_below hD1) 0 _ rfl
      have c6 := Hw4.out _ (Ch.of_below hD1)
      have hC1 : Ch nob w4 x1 := Ch.of_below hD1
      clear hz hok hlea hen hno hpk hok2 hkl hks2 hd2 hcd2 hmA hlm' hKP hLW Hcd
      go_wp2_with (first | refine wp_ld 26 (.tmp 44) rfl rfl rfl (XH.out _ hC1) Tryd.underlying26 rfl (by rw [Lh.out]; exact size25) ?_ | refine wp_bld 30 [(0, .const (.int .i64 3)), (2, .tmp 38), (3, .tmp 39), (4, .tmp 42), (5, .tmp 45)] rfl rfl [(0, .int .i64 3), (2, .int .i64 n), (3, .int .i64 (r : Int)), (4, .int .i64 m.s), (5, .agg lh.toArray)] rfl hbl ?_ | (refine wp_newst 30 8 (.tmp 46) rfl rfl rfl rfl rfl rfl zeroM (l := lm (r : Int)) rfl (by rw [Lm.out]; rfl) (by rw [Lm.out]; exact sizeM) (Om.out _) (by simp [Act.put]) ?_; intro x2 b8 hD2 hs2; refine wp_stop ?_))
      have hD := hD1.trans (hD2.mono hD1.size)
      have hBx := hBx.trans (hD2.mono hBx.size)
      have h48 : w4.heap.size ≤ x1.heap.size := hD1.size
      obtain ⟨g8, hg8⟩ : ∃ g, g = x1.heap.size := ⟨_, rfl⟩
      rw [← hg8] at b8 h48 ⊢
      clear hg8 hs2 hD2 c0 c6 hC1 hD1 hbl
      have hC2 : Ch nob w4 x2 := Ch.of_below hD
      refine wp_go ?_
      go_wp2_with (first | refine wp_ld 37 (.tmp 5) rfl rfl rfl (XK.out _ hC2) Tryd.underlying37 rfl sizeKs17 ?_ | refine wp_ld 24 (.tmp 48) rfl rfl rfl (XV.out _ hC2) Tryd.underlying24 rfl sizeVw17 ?_ | refine wp_ld 30 (.tmp 8) rfl rfl rfl b8.whole Tryd.underlying30 rfl (by rw [Lm.out]; exact sizeM) ?_)
      refine (Hcp.out _ (hK4.below hD) (hk.below hD) (hp4.below hD)).mono ?_
      rintro e x3 ⟨v3, rfl, hv3, hD3⟩
      obtain ⟨A3, c3, rfl, _, _⟩ := hv3.slShape
      have b8 := b8.below hD3
      have hD := hD.trans (hD3.mono hD.size)
      have hBx := hBx.trans (hD3.mono hBx.size)
      have hC3 : Ch nob w4 x3 := Ch.of_below hD
      have c6 := Hw4.out _ hC3
      clear hD3 hC2 Hcp
      go_wp2_with (first | refine wp_ld 37 (.tmp 5) rfl rfl rfl (XK.out _ hC3) Tryd.underlying37 rfl sizeKs17 ?_ | refine wp_ld 24 (.tmp 55) rfl rfl rfl (XV.out _ hC3) Tryd.underlying24 rfl sizeVw17 ?_ | refine wp_ld 26 (.tmp 61) rfl rfl rfl (XH.out _ hC3) Tryd.underlying26 rfl (by rw [Lh.out]; exact size25) ?_)
      refine (Hcd2.out _ _ _ (hK4.below hD) (hk.below hD) hv3).mono ?_
      rintro e x4 ⟨rfl, hD4⟩
      have b8 := b8.below hD4
      have hD := hD.trans (hD4.mono hD.size)
      have hBx := hBx.trans (hD4.mono hBx.size)
      clear hD4 hC3 c6 Hcd2 hv3
      go_wp2
      go_loopw [68] (fun iv wr => ∃ (k : Nat) (y : Int), k ≤ r ∧ iv = .int .i64 k ∧ Blk wr g8 30 (lm y) ∧ Ch (fun b => b = g8) w4 wr ∧ Below w.heap.size w wr) (fun i _ => r - (intOf i).toNat)
      case atStart => exact ⟨0, _, by omega, rfl, b8, (Ch.of_below hD).weaken (fun _ _ h => h.elim), hBx⟩
      case round =>
        clear b8 hD hBx
        obtain ⟨k, y, hkr, rfl, b8, hC, hBx⟩ := hrel
        by_cases hlt : k < r
        · have hI : (k : Int) < (r : Int) := by omega
          have Hno1 := Hno.out k hlt
          have Hcw1 := hid (Hcw.out k (by omega))
          obtain ⟨Lk, hLk⟩ : ∃ l, l = LW k := ⟨_, rfl⟩
          rw [← hLk] at Hno1 Hcw1
          have Hs1 := hid (Hset.out y (k : Int))
          have Ly := hid (Lm.out y)
          obtain ⟨ly, hly⟩ : ∃ l, l = lm y := ⟨_, rfl⟩
          rw [← hly] at b8 Hs1 Ly
          clear hLk hly
          go_wp2_with (first | (refine wp_st1 3 (.tmp 72) (.tmp 71) rfl rfl rfl (f := 3) rfl (v := .int .i64 (k : Int)) rfl b8 (by rw [Ly.out]; omega) sizeI17 rfl rfl ?_; intro x5 b8 G5; refine wp_stop ?_))
          rw [Hs1.out] at b8
          have hC := hC.grow G5 (fun b hb => by injection hb with hb; exact .inl hb.symm)
          have hBx := hBx.grown G5 hBx.size (fun b hb => by injection hb with hb; have := hB.size; omega)
          have hw48 : ∀ Z, Ch nob x5 Z → Ch nob w4 Z := fun Z h => (hC.trans (h.weaken (fun _ _ e => e.elim))).weaken (fun b hb e => by have e : b = g8 := e; omega)
          have Hw48 := hid hw48
          have hD5 : Below w4.heap.size w4 x5 := (hw48 x5 (Ch.refl _ _)).below
          have XM : Hid (∀ Z, Ch nob x5 Z → Z.rangeAt g8 0 (lm (k : Int))) := fun Z h => (b8.below h.below).whole
          have Lk39 := hid (Lm.out (k : Int))
          obtain ⟨lk, hlk⟩ : ∃ l, l = lm (k : Int) := ⟨_, rfl⟩
          rw [← hlk] at XM Lk39 Hcw1
          have Hlk := hid hlk
          clear G5 hw48 hlk
          refine wp_go ?_
          go_upto_region 16 with (fail)
          have hge : ¬ (quoN n M : Int) ≤ (Lk.length : Int) := by omega
          clear Hno1
          refine wp_region_noPanic ?_
          refine wp_region_held_drew (S := Ch nob x5) (by kernel_rfl) ((Ch.refl _ _).drew) (fun hHeld => ?_)
          refine wpAnyH_take (i := 0) (oi := ⟨some 73, .load 37 (.tmp 5), _, _, _, none⟩) (v := _) rfl (by kernel_rfl) (by kernel_rfl) (by kernel_rfl) (fun _ _ _ h => h) (yieldsIf_load_mid (by rfl) 37 (.tmp 5) (by rfl) _ (0) (by rfl) _ _ (fun _ hs => XK.out _ (Hw48.out _ hs)) Tryd.underlying37 rfl (sizeKs17)) (by assumption) ?_
          try simp only [Act.put, List.setIfInBounds_toArray, List.set_cons_zero, List.set_cons_succ]
          refine wpAnyH_take (i := 1) (oi := ⟨some 74, _, _, _, _, none⟩) (v := ?_) rfl (by kernel_rfl) (by kernel_rfl) (by kernel_rfl) (fun _ _ _ h => h) (Or.inl ⟨by rfl, ?_⟩) (by assumption) ?_
          rotate_left
          · intro w hSw; go_simp; try with_reducible rfl
          try simp only [Act.put, List.setIfInBounds_toArray, List.set_cons_zero, List.set_cons_succ]
          refine wpAnyH_take (i := 2) (oi := ⟨some 75, .load 24 (.tmp 74), _, _, _, none⟩) (v := _) rfl (by kernel_rfl) (by kernel_rfl) (by kernel_rfl) (fun _ _ _ h => h) (yieldsIf_load_mid (by rfl) 24 (.tmp 74) (by rfl) _ (0) (by rfl) _ _ (fun _ hs => XV.out _ (Hw48.out _ hs)) Tryd.underlying24 rfl (sizeVw17)) (by assumption) ?_
          try simp only [Act.put, List.setIfInBounds_toArray, List.set_cons_zero, List.set_cons_succ]
          refine wpAnyH_take (i := 3) (oi := ⟨some 76, .load 30 (.tmp 8), _, _, _, none⟩) (v := _) rfl (by kernel_rfl) (by kernel_rfl) (by kernel_rfl) (fun _ _ _ h => h) (yieldsIf_load_mid (by rfl) 30 (.tmp 8) (by rfl) _ (0) (by rfl) _ _ (fun _ hs => XM.out _ hs) Tryd.underlying30 rfl (by rw [Lk39.out]; exact sizeM)) (by assumption) ?_
          try simp only [Act.put, List.setIfInBounds_toArray, List.set_cons_zero, List.set_cons_succ]
          refine wpAnyH_take (i := 4) (oi := ⟨some 77, _, _, _, _, none⟩) (v := ?_) rfl (by kernel_rfl) (by kernel_rfl) (by kernel_rfl) (fun _ _ _ h => h) (Or.inl ⟨by rfl, ?_⟩) (by assumption) ?_
          rotate_left
          · intro w hSw; go_simp; try with_reducible rfl
          try simp only [Act.put, List.setIfInBounds_toArray, List.set_cons_zero, List.set_cons_succ]
          refine wpAnyH_take (i := 7) (oi := ⟨some 80, _, _, _, _, none⟩) (v := ?_) rfl (by kernel_rfl) (by kernel_rfl) (by kernel_rfl) (fun _ _ _ h => h) (Or.inl ⟨by rfl, ?_⟩) (by assumption) ?_
          rotate_left
          · intro w hSw; go_simp; try with_reducible rfl
          try simp only [Act.put, List.setIfInBounds_toArray, List.set_cons_zero, List.set_cons_succ]
          refine wpAnyH_take (i := 8) (oi := ⟨some 81, .load 24 (.tmp 80), _, _, _, none⟩) (v := _) rfl (by kernel_rfl) (by kernel_rfl) (by kernel_rfl) (fun _ _ _ h => h) (yieldsIf_load_mid (by rfl) 24 (.tmp 80) (by rfl) _ (0) (by rfl) _ _ (fun _ hs => XV.out _ (Hw48.out _ hs)) Tryd.underlying24 rfl (sizeVw17)) (by assumption) ?_
          try simp only [Act.put, List.setIfInBounds_toArray, List.set_cons_zero, List.set_cons_succ]
          refine wpAnyH_ready (rs := [5]) (by kernel_rfl) (by simp) ?_
          refine AllReadyH.cons (o := ⟨some 78, _, _, _, _, none⟩) rfl (fun K hK => ?_) AllReadyH.nil
          go_simp
          refine (Hcw1.out _ ((hK4.below hD5).below hHeld.below) ((hk.below hD5).below hHeld.below) ((hp4.below hD5).below hHeld.below)).mono ?_
          rintro e' y1 ⟨v7, rfl, ho7, hE1⟩
          obtain ⟨A7, c7, rfl⟩ := own_shape ho7
          refine hK.out _ _ (hHeld.belowR hE1) (fun hHeld => ?_)
          clear hK K
          try simp only [Act.put, List.setIfInBounds_toArray, List.set_cons_zero, List.set_cons_succ]
          refine wpAnyH_take (i := 6) (oi := ⟨some 79, _, _, _, _, none⟩) (v := ?_) rfl (by kernel_rfl) (by kernel_rfl) (by kernel_rfl) (fun _ _ _ h => h) (Or.inl ⟨by rfl, ?_⟩) (by assumption) ?_
          rotate_left
          · intro w hSw; go_simp; try with_reducible rfl
          try simp only [Act.put, List.setIfInBounds_toArray, List.set_cons_zero, List.set_cons_succ]
          refine wpAnyH_ready (rs := [9]) (by kernel_rfl) (by simp) ?_
          refine AllReadyH.cons (o := ⟨some 82, _, _, _, _, none⟩) rfl (fun K hK => ?_) AllReadyH.nil
          go_simp
          refine (Hqu.out _).mono ?_
          rintro e' y2 ⟨rfl, hE2⟩
          refine hK.out _ _ (hHeld.belowR hE2) (fun hHeld => ?_)
          clear hK K
          try simp only [Act.put, List.setIfInBounds_toArray, List.set_cons_zero, List.set_cons_succ]
          refine wpAnyH_take (i := 10) (oi := ⟨some 83, _, _, _, _, none⟩) (v := ?_) rfl (by kernel_rfl) (by kernel_rfl) (by kernel_rfl) (fun _ _ _ h => h) (Or.inl ⟨by rfl, ?_⟩) (by assumption) ?_
          rotate_left
          · intro w hSw; go_simp; try with_reducible rfl
          try simp only [Act.put, List.setIfInBounds_toArray, List.set_cons_zero, List.set_cons_succ]
          refine wpAnyH_done (by kernel_rfl) ?_ _
          refine NoPanic.normal ?_
          go_wp2
          go_roundw
          case rel => exact ⟨k + 1, (k : Int), by omega, by go_num, b8.below hHeld.below, hC.trans (hHeld.weaken (fun _ _ e => e.elim)), Ch.below_of hBx hHeld (fun k hk => hk.elim) hBx.size⟩
          case measure => simp [intOf]; omega
        · have hk' : k = r := by omega
          subst hk'
          have hI : ¬ (k : Int) < (k : Int) := by omega
          go_wp2
          go_ret
          exact ⟨by simp, hBx⟩
end Go.Proofs.YtddeeigdcolegaaDoor
