/- C6: layer 17: CertsMore. -/
import Derived.Test.YtddeeigdcolegaaDoorC3
namespace Go.V
open Go.RowKit
theorem Rd.srcTx17 {w : World} {F : Nat → Prop} {A : Option Addr} {n c : Nat} {l : List (List UInt8)} (h : Rd w F (.slice A n c) (tx l)) : ∃ us, Src w A l.length us ∧ TxX w F l us := by
  have hsh := h.slShape
  obtain ⟨A', c', e, _, _⟩ := hsh
  injection e with e1 e2 e3
  subst e2
  cases hl : l with
  | nil => exact ⟨[], ⟨rfl, fun j u h => by simp at h⟩, TxX.nil _ _⟩
  | cons t r =>
    rw [hl] at h
    obtain ⟨g, off, u0, rfl, _, _, _⟩ := Rd.elem h 0 (bys t) rfl
    have hall : ∀ i (t' : List UInt8), (t :: r)[i]? = some t' → ∃ u, w.cell? ⟨g, off + i, none⟩ = some u ∧ Rd w F u (bys t') := by
      intro i t' ht
      obtain ⟨g', off', u, hA, _, hc, hu⟩ := Rd.elem h i (bys t') (by rw [List.getElem?_map, ht]; rfl)
      injection hA with hA
      injection hA with h1 h2 h3
      subst h1 h2
      exact ⟨u, hc, hu⟩
    refine ⟨(List.range (t :: r).length).map fun i => (w.cell? ⟨g, off + i, none⟩).getD undef, ⟨by simp, fun j u hu => ?_⟩, ⟨by simp, fun i u t' hu ht => ?_⟩⟩
    · rw [List.getElem?_map] at hu
      have hj : j < (t :: r).length := by
        rcases Nat.lt_or_ge j (t :: r).length with h | h
        · exact h
        · rw [List.getElem?_eq_none (by rw [List.length_range]; exact h)] at hu; cases hu
      rw [List.getElem?_range hj] at hu
      injection hu with hu
      obtain ⟨u', hc, _⟩ := hall j _ (List.getElem?_eq_getElem hj)
      dsimp only at hu
      rw [hc] at hu
      have hu : u' = _ := hu
      subst hu
      exact ⟨g, off, rfl, hc⟩
    · have hi : i < (t :: r).length := (List.getElem?_eq_some_iff.1 ht).1
      rw [List.getElem?_map, List.getElem?_range hi] at hu
      injection hu with hu
      obtain ⟨u', hc, hr⟩ := hall i _ ht
      dsimp only at hu
      rw [hc] at hu
      have hu : u' = _ := hu
      subst hu
      exact hr
theorem TxX.app17 {w : World} {F : Nat → Prop} {l l2 : List (List UInt8)} {us us2 : List Value} (h : TxX w F l us) (h2 : TxX w F l2 us2) : TxX w F (l ++ l2) (us ++ us2) := by
  refine ⟨by simp [h.len, h2.len], fun i v x hv hx => ?_⟩
  rcases Nat.lt_or_ge i us.length with hi | hi
  · rw [List.getElem?_append_left hi] at hv
    rw [List.getElem?_append_left (by rw [← h.len]; exact hi)] at hx
    exact h.at_ i v x hv hx
  · rw [List.getElem?_append_right hi] at hv
    rw [List.getElem?_append_right (by rw [← h.len]; exact hi), ← h.len] at hx
    exact h2.at_ _ v x hv hx
theorem TxX.one17 {w : World} {F : Nat → Prop} {l : List (List UInt8)} {us : List Value} (h : TxX w F l us) : ∀ u ∈ us, u.oneCell' = true := fun u hu => by
  obtain ⟨i, hi, rfl⟩ := List.mem_iff_getElem.1 hu
  have hl : i < l.length := by rw [← h.len]; exact hi
  obtain ⟨A, c, e⟩ := (h.at_ i _ _ (List.getElem?_eq_getElem hi) (List.getElem?_eq_getElem hl)).shape
  rw [e]
  rfl
end Go.V
namespace Go.Proofs.YtddeeigdcolegaaDoor
open Go.RowKit Go.V
theorem wri_two (ks : List (List UInt8)) (V : Vc) (r s : Int) (h : List UInt8) (P : List (List UInt8)) : wriC ks V r s h P = 12 ∨ (wriC ks V r s h P = 0 ∧ okC V P = true ∧ enC ks V ⟨2, V.n, r, s, h⟩ P = true) := by
  unfold wriC
  by_cases hc : okC V P = true ∧ enC ks V ⟨2, V.n, r, s, h⟩ P = true
  · exact .inr ⟨if_pos hc, hc.1, hc.2⟩
  · exact .inl (if_neg hc)
theorem wri_app {ks : List (List UInt8)} {V : Vc} {r s : Int} {h : List UInt8} {P R : List (List UInt8)} (h16 : (R ++ P).length ≤ 16) (hok : okC V P = true) (hen : enC ks V ⟨2, V.n, r, s, h⟩ P = true) : wriC ks V r s h (R ++ P) = 0 := by
  unfold wriC
  refine if_pos ⟨?_, en_mono (fun X hX => List.mem_append_right _ hX) hen⟩
  unfold okC at hok ⊢
  rw [Bool.and_eq_true, decide_eq_true_eq] at hok ⊢
  exact ⟨hok.1, h16⟩
theorem wri_pick {ks : List (List UInt8)} {V : Vc} {r s : Int} {h : List UInt8} {P : List (List UInt8)} (hw : wriC ks V r s h P = 0) : wriC ks V r s h (pickC ks V ⟨2, V.n, r, s, h⟩ P) = 0 := by
  rcases wri_two ks V r s h P with h1 | ⟨_, hok, hen⟩
  · rw [h1] at hw; cases hw
  · unfold wriC
    refine if_pos ⟨?_, pick_en hen⟩
    unfold okC at hok ⊢
    rw [Bool.and_eq_true, decide_eq_true_eq] at hok ⊢
    exact ⟨hok.1, pick_len _ _ _ _⟩
set_option maxRecDepth 100000 in
set_option maxHeartbeats 16000000 in
theorem certsMore_law (V : Vc) (m : Mg) (P : List (List UInt8)) (R : List (List UInt8)) (ub up pv qv : Value) (F1 F2 H H2 : Nat → Prop) (w : World) (hKS : KS w) (hV : in64w V.n ∧ V.m < 65536) (hm : MgIn m) (hub : Rd w F1 ub (bys m.b)) (hup : Rd w F2 up (tx m.ps)) (hp : Rd w H pv (tx P)) (hq : Rd w H2 qv (tx R)) :
    Calls Tryd.prog 6 #[.agg (aK V m ub up).toArray, pv, qv] w fun e w' => e = .returned (.bool true) ∧ Below w.heap.size w w' := by
  obtain ⟨n, M⟩ := V
  obtain ⟨A, c, rfl, hcA, hcm⟩ := hp.slShape
  obtain ⟨Aq, cq, rfl, _, _⟩ := hq.slShape
  have hb2 := Blk.new' w 32 (aK ⟨n, M⟩ m ub up)
  have hB : Below w.heap.size w (w.alloc (.cells (aK ⟨n, M⟩ m ub up).toArray 32)) := (Below.refl _ _).alloc (Nat.le_refl _) _
  have Hmv : Hid (∀ j v, ([.int .i64 n, .int .u16 (M : Int)] : List Value)[j]? = some v → (aK ⟨n, M⟩ m ub up)[0 + j]? = some v) := fun j v h => ak_v (V := ⟨n, M⟩) h
  have Hmm : Hid (∀ j v, (m.l ub up)[j]? = some v → (aK ⟨n, M⟩ m ub up)[2 + j]? = some v) := fun j v h => ak_m h
  have hlm : (m.l ub up).length = 39 := len_mg hm.h _ _
  have Hlm := hid hlm
  have Hlo := hid (long17_any P (.slice A P.length c) H)
  have Hlo2 := hid (long17_any R (.slice Aq R.length cq) H2)
  obtain ⟨la, hla⟩ : ∃ l, l = aK ⟨n, M⟩ m ub up := ⟨_, rfl⟩
  rw [← hla] at hb2 hB Hmv Hmm ⊢
  clear hla
  go_enter Tryd.func6, Tryd.ntmps6
  go_wp2_with (fail)
  obtain ⟨w0, hw0⟩ : ∃ x, x = w.alloc (.cells la.toArray 32) := ⟨_, rfl⟩
  rw [← hw0] at hb2 hB ⊢
  obtain ⟨g2, hg2⟩ : ∃ g, g = w.heap.size := ⟨_, rfl⟩
  rw [← hg2] at hb2 ⊢
  clear hw0 hg2
  refine (wakes17_any _ (hKS.below hB)).mono ?_
  rintro e w1 ⟨rfl, hB1⟩
  have hb2 := hb2.below hB1
  have hB := hB.trans (hB1.mono hB.size)
  clear hB1
  go_wp2_with (fail)
  refine (Hlo.out _ (hp.below hB)).mono ?_
  rintro e w2 ⟨rfl, hB2⟩
  have hb2 := hb2.below hB2
  have hB := hB.trans (hB2.mono hB.size)
  clear hB2 Hlo
  cases hL : longC P with
  | true =>
    clear hL
    go_wp2
    go_ret
    exact ⟨rfl, hB⟩
  | false =>
    have hbd := longC_bd hL
    clear hL
    go_wp2_with (fail)
    refine (Hlo2.out _ (hq.below hB)).mono ?_
    rintro e w2' ⟨rfl, hB2'⟩
    have hb2 := hb2.below hB2'
    have hB := hB.trans (hB2'.mono hB.size)
    clear hB2' Hlo2
    cases hL2 : longC R with
    | true =>
      clear hL2
      go_wp2
      go_ret
      exact ⟨rfl, hB⟩
    | false =>
      have hbd2 := longC_bd hL2
      clear hL2
      have hP24 := hbd.1
      have hR24 := hbd2.1
      have HPs : Hid (PsSm P) := hid ⟨by omega, fun X hX => by have := hbd.2 X hX; omega⟩
      have HtP : Hid (∀ X ∈ R ++ P, X.length ≤ 1000) := hid (fun X hX => by
        rcases List.mem_append.1 hX with h | h
        · have := hbd2.2 X h; omega
        · have := hbd.2 X h; omega)
      clear hbd hbd2
      go_wp2_with (fail)
      refine (table17_any _).mono ?_
      rintro e w3 ⟨uk, rfl, hk, hB3⟩
      have hb2 := hb2.below hB3
      have hB := hB.trans (hB3.mono hB.size)
      obtain ⟨Ak, ck, rfl, _, _⟩ := hk.slShape
      go_wp2_with (refine wp_newst 37 7 (.tmp 18) rfl rfl rfl rfl rfl rfl zeroKs17 (l := [.slice Ak ks17.length ck, .slice none 0 0]) rfl rfl sizeKs17 (by intro v hv; simp at hv; rcases hv with rfl | rfl <;> rfl) (by simp) ?_; intro w4 b5 hB4 hs4; refine wp_stop ?_)
      have hb2 := hb2.below hB4
      have hk := hk.below hB4
      have hB := hB.trans (hB4.mono hB.size)
      obtain ⟨g5, hg5⟩ : ∃ g, g = w3.heap.size := ⟨_, rfl⟩
      rw [← hg5] at b5 ⊢
      clear hB3 hB4 hs4 hg5
      refine wp_go ?_
      have Hw3 : Hid (∀ Z, Ch nob w4 Z → Z.cell? ⟨g2, 5, none⟩ = some (.int .i64 m.r)) := fun Z h => (hb2.below h.below).cellAt 5 _ (Hmm.out 3 _ rfl)
      have Hw4 : Hid (∀ Z, Ch nob w4 Z → Z.cell? ⟨g2, 6, none⟩ = some (.int .i64 m.s)) := fun Z h => (hb2.below h.below).cellAt 6 _ (Hmm.out 4 _ rfl)
      have XH : Hid (∀ Z, Ch nob w4 Z → Z.rangeAt g2 7 (bvs m.h)) := fun Z h => (hb2.below h.below).range 7 _ (fun j v hv => by
        have := Hmm.out (5 + j) v (mg_hash hm.h _ _ j v hv)
        rw [← Nat.add_assoc] at this
        exact this)
      have XK : Hid (∀ Z, Ch nob w4 Z → Z.rangeAt g5 0 [.slice Ak ks17.length ck, .slice none 0 0]) := fun Z h => (b5.below h.below).whole
      have XV : Hid (∀ Z, Ch nob w4 Z → Z.rangeAt g2 0 [.int .i64 n, .int .u16 (M : Int)]) := fun Z h => (hb2.below h.below).range 0 _ Hmv.out
      have Lh : Hid ((bvs m.h).length = 32) := hid (by rw [len_bvs]; exact hm.h)
      have hK4 := hKS.below hB
      have hp4 := hp.below hB
      have hub4 := hub.below hB
      have hup4 := hup.below hB
      have hq4 := (hq.weak (F' := fun b => H2 b ∧ b < w.heap.size) (fun b hb hF => ⟨hF, hb⟩)).below hB
      have hp5 := (hp.weak (F' := fun b => H b ∧ b < w.heap.size) (fun b hb hF => ⟨hF, hb⟩)).below hB
      have hww4 := hB.size
      have Hcw := hid (fun Y h1 h2 h3 => cwri17_any ks17 ⟨n, M⟩ P m.r m.s m.h (.slice Ak ks17.length ck) (.slice none 0 0) (.slice A P.length c) (fun b => w2'.heap.size ≤ b) H Y h1 ks17_sm h2 h3 HPs.out hV ⟨hm.r, hm.s⟩ hm.h)
      have hwr := wri_two ks17 ⟨n, M⟩ m.r m.s m.h P
      unfold vw at Hcw
      obtain ⟨u, hu⟩ : ∃ u, u = wriC ks17 ⟨n, M⟩ m.r m.s m.h P := ⟨_, rfl⟩
      rw [← hu] at Hcw hwr
      have Hbl := hid (bldA17 2 n m.r m.s m.h hm.h)
      obtain ⟨lh, hlh⟩ : ∃ l, l = bvs m.h := ⟨_, rfl⟩
      rw [← hlh] at XH Lh Hcw Hbl
      have Hlh := hid hlh
      have Hu := hid hu
      clear hlh hlm hu
      have c5 := Hw3.out _ (Ch.refl _ _)
      have c6 := Hw4.out _ (Ch.refl _ _)
      go_wp2_with (first | refine wp_ld 37 (.tmp 7) rfl rfl rfl (XK.out _ (Ch.refl _ _)) Tryd.underlying37 rfl sizeKs17 ?_ | refine wp_ld 24 (.tmp 20) rfl rfl rfl (XV.out _ (Ch.refl _ _)) Tryd.underlying24 rfl sizeVw17 ?_ | refine wp_ld 26 (.tmp 29) rfl rfl rfl (XH.out _ (Ch.refl _ _)) Tryd.underlying26 rfl (by rw [Lh.out]; exact size25) ?_)
      refine (Hcw.out _ hK4 hk hp4).mono ?_
      rintro e x1 ⟨rfl, hD1⟩
      clear Hcw c5 c6
      have hBx := hB.trans (hD1.mono hB.size)
      rcases hwr with rfl | ⟨rfl, hokP, henP⟩
      · go_wp2
        go_ret
        exact ⟨rfl, hBx⟩
      · clear Hu
        by_cases h16 : 16 < P.length + R.length
        · have hI : (16 : Int) < (P.length : Int) + (R.length : Int) := by omega
          clear hokP henP
          go_wp2
          go_ret
          exact ⟨rfl, hBx⟩
        · have hI : ¬ (16 : Int) < (P.length : Int) + (R.length : Int) := by omega
          have Hok := hid hokP
          have Hen := hid henP
          clear hokP henP
          have Hbs := hid (fun W : World => (by kernel_rfl : (Instr.buildSlice 28 0 #[]).run Tryd.prog W = .ok (.slice (some ⟨W.heap.size, 0, none⟩) 0 0) (W.alloc (.cells #[] 27))))
          go_wp2_with (first | (refine wp_bs0 28 27 rfl rfl Hbs.out ?_; intro v9 w9 ho9 hB9; refine wp_stop ?_))
          obtain ⟨us2, hsr2, htx2⟩ := ((hq4.below hD1).below hB9).srcTx17
          have ho2 := htx2.one17
          have hs9 := hB9.size
          refine wp_go ?_
          go_wp2_with (first | (refine wp_app (.tmp 42) (.tmp 43) slBB8 rfl rfl rfl ho9 rfl hsr2 ho2 (by simp only [maxLen]; omega) (by omega) hs9 ?_; intro v8 w8 ho8 hG8 _; refine wp_stop ?_))
          have hB8 : Below x1.heap.size x1 w8 := hB9.grown hG8 hs9 (fun k hk => (ho9.lt k hk).1)
          obtain ⟨us3, hsr3, htx3⟩ := ((hp5.below hD1).below hB8).srcTx17
          have ho3 := htx3.one17
          have hs8 := hB8.size
          clear hG8 hsr2 ho2
          refine wp_go ?_
          go_wp2_with (first | (refine wp_app (.tmp 44) (.tmp 45) slBB8 rfl rfl rfl ho8 rfl hsr3 ho3 (by simp only [maxLen]; omega) (by omega) hs8 ?_; intro v7 w7 ho7 hG7 _; refine wp_stop ?_))
          have hB7 : Below x1.heap.size x1 w7 := hB8.grown hG7 hs8 (fun k hk => (ho8.lt k hk).1)
          have hs1 := hD1.size
          have hall : Rd w7 (fun _ => True) v7 (tx (R ++ P)) := by
            refine tx_own17 (us := us2 ++ us3) (F := fun _ => True) (by simpa using ho7) ?_ (fun _ _ => trivial) (fun _ _ => trivial)
            refine (htx2.keep (F' := fun _ => True) (fun b _ hF => ⟨trivial, ?_⟩)).app17 (htx3.keep (F' := fun _ => True) (fun b _ hF => ⟨trivial, ?_⟩))
            · rw [hB7.block b (by have := hF.2; omega), hB9.block b (by have := hF.2; omega)]
            · rw [hB7.block b (by have := hF.2; omega), hB8.block b (by have := hF.2; omega)]
          obtain ⟨A7, c7, rfl, _, _⟩ := hall.slShape
          have hD := hD1.trans (hB7.mono hD1.size)
          have hBx := hBx.trans (hB7.mono hBx.size)
          clear hG7 hsr3 ho3 htx2 htx3 ho7 ho8 ho9 hB9 hB8 hB7 hs9 hs8 hD1 hs1
          have hC7 : Ch nob w4 w7 := Ch.of_below hD
          have c0 : w7.cell? ⟨g2, 0, none⟩ = some (.int .i64 n) := XV.out _ hC7 0 _ rfl
          have c5 := Hw3.out _ hC7
          have c6 := Hw4.out _ hC7
          have Lm := hid (len_aL 2 n m.r m.s m.h hm.h)
          have Om := hid (one_aL 2 n m.r m.s m.h)
          have hmA : MgIn (aM 2 n m.r m.s m.h) := ⟨by show in64w 2; unfold in64w; omega, by show in64w 0; unfold in64w; omega, hV.1, hm.r, hm.s, hm.h⟩
          have hall16 : (R ++ P).length ≤ 16 := by rw [List.length_append]; omega
          have hPA : PsSm (R ++ P) := ⟨by omega, HtP.out⟩
          have hwA := wri_app (R := R) hall16 Hok.out Hen.out
          have hwK := wri_pick hwA
          have hPK : PsSm (pickC ks17 ⟨n, M⟩ ⟨2, n, m.r, m.s, m.h⟩ (R ++ P)) := ⟨by have := pick_len ks17 ⟨n, M⟩ ⟨2, n, m.r, m.s, m.h⟩ (R ++ P); omega, fun X hX => HtP.out X (pick_sub X hX)⟩
          have hca := fun v F Y h1 h2 h3 => cwri17_any ks17 ⟨n, M⟩ (R ++ P) m.r m.s m.h (.slice Ak ks17.length ck) (.slice none 0 0) v (fun b => w2'.heap.size ≤ b) F Y h1 ks17_sm h2 h3 hPA hV ⟨hm.r, hm.s⟩ hm.h
          have hck := fun v F Y h1 h2 h3 => cwri17_any ks17 ⟨n, M⟩ (pickC ks17 ⟨n, M⟩ ⟨2, n, m.r, m.s, m.h⟩ (R ++ P)) m.r m.s m.h (.slice Ak ks17.length ck) (.slice none 0 0) v (fun b => w2'.heap.size ≤ b) F Y h1 ks17_sm h2 h3 hPK hV ⟨hm.r, hm.s⟩ hm.h
          rw [hwA] at hca
          rw [hwK] at hck
          have hcp := fun v F Y h1 h2 h3 => cpick17_any ks17 ⟨n, M⟩ (R ++ P) (aM 2 n m.r m.s m.h) (.slice Ak ks17.length ck) (.slice none 0 0) v (.slice none 0 0) (.slice none 0 0) (fun b => w2'.heap.size ≤ b) F nob nob Y h1 ks17_sm h2 h3 hPA hV hmA (Rd.nil _ _) (Rd.nil _ _)
          have hqA : qOf (aM 2 n m.r m.s m.h) = ⟨2, n, m.r, m.s, m.h⟩ := rfl
          rw [hqA] at hcp
          unfold vw at hca hck hcp
          rw [← Hlh.out] at hca hck
          have Hca := hid hca
          have Hck := hid hck
          have Hcp := hid hcp
          obtain ⟨KP, hKP⟩ : ∃ k, k = pickC ks17 ⟨n, M⟩ ⟨2, n, m.r, m.s, m.h⟩ (R ++ P) := ⟨_, rfl⟩
          obtain ⟨KA, hKA⟩ : ∃ k, k = R ++ P := ⟨_, rfl⟩
          obtain ⟨lm, hlm'⟩ : ∃ l, l = aL 2 n m.r m.s m.h := ⟨_, rfl⟩
          have hlm2 : (aM 2 n m.r m.s m.h).l (.slice none 0 0) (.slice none 0 0) = lm := hlm'.symm
          rw [hlm2] at Hcp
          rw [← hlm'] at Lm Om Hbl
          rw [← hKP] at Hck Hcp
          rw [← hKA] at Hca Hcp hall ⊢
          clear hKP hKA hlm' hlm2 hca hck hcp hqA hmA hPA hPK hwA hwK hall16 Hok Hen HtP hI h16 Hlh
          refine wp_go ?_
          have hbl := Hbl.out
          go_wp2_with (first | refine wp_ld 26 (.tmp 57) rfl rfl rfl (XH.out _ hC7) Tryd.underlying26 rfl (by rw [Lh.out]; exact size25) ?_ | refine wp_bld 30 [(0, .const (.int .i64 2)), (2, .tmp 49), (3, .tmp 52), (4, .tmp 55), (5, .tmp 58)] rfl rfl [(0, .int .i64 2), (2, .int .i64 n), (3, .int .i64 m.r), (4, .int .i64 m.s), (5, .agg lh.toArray)] rfl hbl ?_ | (refine wp_newst 30 9 (.tmp 59) rfl rfl rfl rfl rfl rfl zeroM (l := lm) rfl (by rw [Lm.out]; rfl) (by rw [Lm.out]; exact sizeM) Om.out (by simp [Act.put]) ?_; intro x5 b9 hD5 hs5; refine wp_stop ?_))
          have hall := hall.below hD5
          have hD := hD.trans (hD5.mono hD.size)
          have hBx := hBx.trans (hD5.mono hBx.size)
          obtain ⟨g9, hg9⟩ : ∃ g, g = w7.heap.size := ⟨_, rfl⟩
          rw [← hg9] at b9 ⊢
          clear hg9 hs5 hD5 c0 c5 c6 hC7 hbl Hbl
          have hCx : Ch nob w4 x5 := Ch.of_below hD
          have XM : Hid (∀ Z, Ch nob x5 Z → Z.rangeAt g9 0 lm) := fun Z h => (b9.below h.below).whole
          refine wp_go ?_
          go_upto_region 10 with (fail)
          refine wp_region_noPanic ?_
          refine wp_region_held_drew (S := Ch nob x5) (by kernel_rfl) ((Ch.refl _ _).drew) (fun hHeld => ?_)
          refine wpAnyH_take (i := 0) (oi := ⟨some 60, .load 37 (.tmp 7), _, _, _, none⟩) (v := _) rfl (by kernel_rfl) (by kernel_rfl) (by kernel_rfl) (fun _ _ _ h => h) (yieldsIf_load_mid (by rfl) 37 (.tmp 7) (by rfl) _ (0) (by rfl) _ _ (fun _ hs => XK.out _ (hCx.trans hs)) Tryd.underlying37 rfl (sizeKs17)) (by assumption) ?_
          try simp only [Act.put, List.setIfInBounds_toArray, List.set_cons_zero, List.set_cons_succ]
          refine wpAnyH_take (i := 1) (oi := ⟨some 61, _, _, _, _, none⟩) (v := ?_) rfl (by kernel_rfl) (by kernel_rfl) (by kernel_rfl) (fun _ _ _ h => h) (Or.inl ⟨by rfl, ?_⟩) (by assumption) ?_
          rotate_left
          · intro w hSw; go_simp; try with_reducible rfl
          try simp only [Act.put, List.setIfInBounds_toArray, List.set_cons_zero, List.set_cons_succ]
          refine wpAnyH_take (i := 2) (oi := ⟨some 62, .load 24 (.tmp 61), _, _, _, none⟩) (v := _) rfl (by kernel_rfl) (by kernel_rfl) (by kernel_rfl) (fun _ _ _ h => h) (yieldsIf_load_mid (by rfl) 24 (.tmp 61) (by rfl) _ (0) (by rfl) _ _ (fun _ hs => XV.out _ (hCx.trans hs)) Tryd.underlying24 rfl (sizeVw17)) (by assumption) ?_
          try simp only [Act.put, List.setIfInBounds_toArray, List.set_cons_zero, List.set_cons_succ]
          refine wpAnyH_take (i := 3) (oi := ⟨some 63, _, _, _, _, none⟩) (v := ?_) rfl (by kernel_rfl) (by kernel_rfl) (by kernel_rfl) (fun _ _ _ h => h) (Or.inl ⟨by rfl, ?_⟩) (by assumption) ?_
          rotate_left
          · intro w hSw; go_simp; try with_reducible rfl
          try simp only [Act.put, List.setIfInBounds_toArray, List.set_cons_zero, List.set_cons_succ]
          refine wpAnyH_take (i := 4) (oi := ⟨some 64, _, _, _, _, none⟩) (v := ?_) rfl (by kernel_rfl) (by kernel_rfl) (by kernel_rfl) (fun _ _ _ h => h) (Or.inl ⟨by rfl, ?_⟩) (by assumption) ?_
          rotate_left
          · intro w hSw; go_simp; try with_reducible rfl
          try simp only [Act.put, List.setIfInBounds_toArray, List.set_cons_zero, List.set_cons_succ]
          refine wpAnyH_take (i := 5) (oi := ⟨some 65, _, _, _, _, none⟩) (v := ?_) rfl (by kernel_rfl) (by kernel_rfl) (by kernel_rfl) (fun _ _ _ h => h) (Or.inl ⟨by rfl, ?_⟩) (by assumption) ?_
          rotate_left
          · intro w hSw; have hcw := Hw3.out w (hCx.trans hSw); go_simp; try with_reducible rfl
          try simp only [Act.put, List.setIfInBounds_toArray, List.set_cons_zero, List.set_cons_succ]
          refine wpAnyH_take (i := 6) (oi := ⟨some 66, _, _, _, _, none⟩) (v := ?_) rfl (by kernel_rfl) (by kernel_rfl) (by kernel_rfl) (fun _ _ _ h => h) (Or.inl ⟨by rfl, ?_⟩) (by assumption) ?_
          rotate_left
          · intro w hSw; go_simp; try with_reducible rfl
          try simp only [Act.put, List.setIfInBounds_toArray, List.set_cons_zero, List.set_cons_succ]
          refine wpAnyH_take (i := 7) (oi := ⟨some 67, _, _, _, _, none⟩) (v := ?_) rfl (by kernel_rfl) (by kernel_rfl) (by kernel_rfl) (fun _ _ _ h => h) (Or.inl ⟨by rfl, ?_⟩) (by assumption) ?_
          rotate_left
          · intro w hSw; go_simp; try with_reducible rfl
          try simp only [Act.put, List.setIfInBounds_toArray, List.set_cons_zero, List.set_cons_succ]
          refine wpAnyH_take (i := 8) (oi := ⟨some 68, _, _, _, _, none⟩) (v := ?_) rfl (by kernel_rfl) (by kernel_rfl) (by kernel_rfl) (fun _ _ _ h => h) (Or.inl ⟨by rfl, ?_⟩) (by assumption) ?_
          rotate_left
          · intro w hSw; have hcw := Hw4.out w (hCx.trans hSw); go_simp; try with_reducible rfl
          try simp only [Act.put, List.setIfInBounds_toArray, List.set_cons_zero, List.set_cons_succ]
          refine wpAnyH_take (i := 9) (oi := ⟨some 69, _, _, _, _, none⟩) (v := ?_) rfl (by kernel_rfl) (by kernel_rfl) (by kernel_rfl) (fun _ _ _ h => h) (Or.inl ⟨by rfl, ?_⟩) (by assumption) ?_
          rotate_left
          · intro w hSw; go_simp; try with_reducible rfl
          try simp only [Act.put, List.setIfInBounds_toArray, List.set_cons_zero, List.set_cons_succ]
          refine wpAnyH_take (i := 10) (oi := ⟨some 70, _, _, _, _, none⟩) (v := ?_) rfl (by kernel_rfl) (by kernel_rfl) (by kernel_rfl) (fun _ _ _ h => h) (Or.inl ⟨by rfl, ?_⟩) (by assumption) ?_
          rotate_left
          · intro w hSw; go_simp; try with_reducible rfl
          try simp only [Act.put, List.setIfInBounds_toArray, List.set_cons_zero, List.set_cons_succ]
          refine wpAnyH_take (i := 11) (oi := ⟨some 71, .load 26 (.tmp 70), _, _, _, none⟩) (v := _) rfl (by kernel_rfl) (by kernel_rfl) (by kernel_rfl) (fun _ _ _ h => h) (yieldsIf_load_mid (by rfl) 26 (.tmp 70) (by rfl) _ (7) (by rfl) _ _ (fun _ hs => XH.out _ (hCx.trans hs)) Tryd.underlying26 rfl (by rw [Lh.out]; exact size25)) (by assumption) ?_
          try simp only [Act.put, List.setIfInBounds_toArray, List.set_cons_zero, List.set_cons_succ]
          refine wpAnyH_take (i := 12) (oi := ⟨some 72, _, _, _, _, none⟩) (v := ?_) rfl (by kernel_rfl) (by kernel_rfl) (by kernel_rfl) (fun _ _ _ h => h) (Or.inl ⟨by rfl, ?_⟩) (by assumption) ?_
          rotate_left
          · intro w hSw; go_simp; try with_reducible rfl
          try simp only [Act.put, List.setIfInBounds_toArray, List.set_cons_zero, List.set_cons_succ]
          refine wpAnyH_ready (rs := [13]) (by kernel_rfl) (by simp) ?_
          refine AllReadyH.cons (o := ⟨some 73, _, _, _, _, none⟩) rfl (fun K hK => ?_) AllReadyH.nil
          go_simp
          refine (Hca.out _ _ _ ((hK4.below hD).below hHeld.below) ((hk.below hD).below hHeld.below) (hall.below hHeld.below)).mono ?_
          rintro e' y1 ⟨rfl, hE1⟩
          refine hK.out _ _ (hHeld.belowR hE1) (fun hHeld => ?_)
          clear hK K
          try simp only [Act.put, List.setIfInBounds_toArray, List.set_cons_zero, List.set_cons_succ]
          refine wpAnyH_take (i := 14) (oi := ⟨some 74, _, _, _, _, none⟩) (v := ?_) rfl (by kernel_rfl) (by kernel_rfl) (by kernel_rfl) (fun _ _ _ h => h) (Or.inl ⟨by rfl, ?_⟩) (by assumption) ?_
          rotate_left
          · intro w hSw; go_simp; try with_reducible rfl
          try simp only [Act.put, List.setIfInBounds_toArray, List.set_cons_zero, List.set_cons_succ]
          refine wpAnyH_take (i := 15) (oi := ⟨some 75, _, _, _, _, none⟩) (v := ?_) rfl (by kernel_rfl) (by kernel_rfl) (by kernel_rfl) (fun _ _ _ h => h) (Or.inl ⟨by rfl, ?_⟩) (by assumption) ?_
          rotate_left
          · intro w hSw; go_simp; try with_reducible rfl
          try simp only [Act.put, List.setIfInBounds_toArray, List.set_cons_zero, List.set_cons_succ]
          refine wpAnyH_take (i := 16) (oi := ⟨some 76, .load 37 (.tmp 7), _, _, _, some (15, true)⟩) (v := _) rfl (by kernel_rfl) (by kernel_rfl) (by kernel_rfl) (fun _ _ _ h => h) (yieldsIf_load_mid (by rfl) 37 (.tmp 7) (by rfl) _ (0) (by rfl) _ _ (fun _ hs => XK.out _ (hCx.trans hs)) Tryd.underlying37 rfl (sizeKs17)) (by assumption) ?_
          try simp only [Act.put, List.setIfInBounds_toArray, List.set_cons_zero, List.set_cons_succ]
          refine wpAnyH_take (i := 17) (oi := ⟨some 77, _, _, _, _, some (15, true)⟩) (v := ?_) rfl (by kernel_rfl) (by kernel_rfl) (by kernel_rfl) (fun _ _ _ h => h) (Or.inl ⟨by rfl, ?_⟩) (by assumption) ?_
          rotate_left
          · intro w hSw; go_simp; try with_reducible rfl
          try simp only [Act.put, List.setIfInBounds_toArray, List.set_cons_zero, List.set_cons_succ]
          refine wpAnyH_take (i := 18) (oi := ⟨some 78, .load 24 (.tmp 77), _, _, _, some (15, true)⟩) (v := _) rfl (by kernel_rfl) (by kernel_rfl) (by kernel_rfl) (fun _ _ _ h => h) (yieldsIf_load_mid (by rfl) 24 (.tmp 77) (by rfl) _ (0) (by rfl) _ _ (fun _ hs => XV.out _ (hCx.trans hs)) Tryd.underlying24 rfl (sizeVw17)) (by assumption) ?_
          try simp only [Act.put, List.setIfInBounds_toArray, List.set_cons_zero, List.set_cons_succ]
          refine wpAnyH_take (i := 19) (oi := ⟨some 79, _, _, _, _, some (15, true)⟩) (v := ?_) rfl (by kernel_rfl) (by kernel_rfl) (by kernel_rfl) (fun _ _ _ h => h) (Or.inl ⟨by rfl, ?_⟩) (by assumption) ?_
          rotate_left
          · intro w hSw; go_simp; try with_reducible rfl
          try simp only [Act.put, List.setIfInBounds_toArray, List.set_cons_zero, List.set_cons_succ]
          refine wpAnyH_take (i := 20) (oi := ⟨some 80, _, _, _, _, some (15, true)⟩) (v := ?_) rfl (by kernel_rfl) (by kernel_rfl) (by kernel_rfl) (fun _ _ _ h => h) (Or.inl ⟨by rfl, ?_⟩) (by assumption) ?_
          rotate_left
          · intro w hSw; go_simp; try with_reducible rfl
          try simp only [Act.put, List.setIfInBounds_toArray, List.set_cons_zero, List.set_cons_succ]
          refine wpAnyH_take (i := 21) (oi := ⟨some 81, _, _, _, _, some (15, true)⟩) (v := ?_) rfl (by kernel_rfl) (by kernel_rfl) (by kernel_rfl) (fun _ _ _ h => h) (Or.inl ⟨by rfl, ?_⟩) (by assumption) ?_
          rotate_left
          · intro w hSw; have hcw := Hw3.out w (hCx.trans hSw); go_simp; try with_reducible rfl
          try simp only [Act.put, List.setIfInBounds_toArray, List.set_cons_zero, List.set_cons_succ]
          refine wpAnyH_take (i := 22) (oi := ⟨some 82, _, _, _, _, some (15, true)⟩) (v := ?_) rfl (by kernel_rfl) (by kernel_rfl) (by kernel_rfl) (fun _ _ _ h => h) (Or.inl ⟨by rfl, ?_⟩) (by assumption) ?_
          rotate_left
          · intro w hSw; go_simp; try with_reducible rfl
          try simp only [Act.put, List.setIfInBounds_toArray, List.set_cons_zero, List.set_cons_succ]
          refine wpAnyH_take (i := 23) (oi := ⟨some 83, _, _, _, _, some (15, true)⟩) (v := ?_) rfl (by kernel_rfl) (by kernel_rfl) (by kernel_rfl) (fun _ _ _ h => h) (Or.inl ⟨by rfl, ?_⟩) (by assumption) ?_
          rotate_left
          · intro w hSw; go_simp; try with_reducible rfl
          try simp only [Act.put, List.setIfInBounds_toArray, List.set_cons_zero, List.set_cons_succ]
          refine wpAnyH_take (i := 24) (oi := ⟨some 84, _, _, _, _, some (15, true)⟩) (v := ?_) rfl (by kernel_rfl) (by kernel_rfl) (by kernel_rfl) (fun _ _ _ h => h) (Or.inl ⟨by rfl, ?_⟩) (by assumption) ?_
          rotate_left
          · intro w hSw; have hcw := Hw4.out w (hCx.trans hSw); go_simp; try with_reducible rfl
          try simp only [Act.put, List.setIfInBounds_toArray, List.set_cons_zero, List.set_cons_succ]
          refine wpAnyH_take (i := 25) (oi := ⟨some 85, _, _, _, _, some (15, true)⟩) (v := ?_) rfl (by kernel_rfl) (by kernel_rfl) (by kernel_rfl) (fun _ _ _ h => h) (Or.inl ⟨by rfl, ?_⟩) (by assumption) ?_
          rotate_left
          · intro w hSw; go_simp; try with_reducible rfl
          try simp only [Act.put, List.setIfInBounds_toArray, List.set_cons_zero, List.set_cons_succ]
          refine wpAnyH_take (i := 26) (oi := ⟨some 86, _, _, _, _, some (15, true)⟩) (v := ?_) rfl (by kernel_rfl) (by kernel_rfl) (by kernel_rfl) (fun _ _ _ h => h) (Or.inl ⟨by rfl, ?_⟩) (by assumption) ?_
          rotate_left
          · intro w hSw; go_simp; try with_reducible rfl
          try simp only [Act.put, List.setIfInBounds_toArray, List.set_cons_zero, List.set_cons_succ]
          refine wpAnyH_take (i := 27) (oi := ⟨some 87, .load 26 (.tmp 86), _, _, _, some (15, true)⟩) (v := _) rfl (by kernel_rfl) (by kernel_rfl) (by kernel_rfl) (fun _ _ _ h => h) (yieldsIf_load_mid (by rfl) 26 (.tmp 86) (by rfl) _ (7) (by rfl) _ _ (fun _ hs => XH.out _ (hCx.trans hs)) Tryd.underlying26 rfl (by rw [Lh.out]; exact size25)) (by assumption) ?_
          try simp only [Act.put, List.setIfInBounds_toArray, List.set_cons_zero, List.set_cons_succ]
          refine wpAnyH_take (i := 28) (oi := ⟨some 88, .load 37 (.tmp 7), _, _, _, some (15, true)⟩) (v := _) rfl (by kernel_rfl) (by kernel_rfl) (by kernel_rfl) (fun _ _ _ h => h) (yieldsIf_load_mid (by rfl) 37 (.tmp 7) (by rfl) _ (0) (by rfl) _ _ (fun _ hs => XK.out _ (hCx.trans hs)) Tryd.underlying37 rfl (sizeKs17)) (by assumption) ?_
          try simp only [Act.put, List.setIfInBounds_toArray, List.set_cons_zero, List.set_cons_succ]
          refine wpAnyH_take (i := 29) (oi := ⟨some 89, _, _, _, _, some (15, true)⟩) (v := ?_) rfl (by kernel_rfl) (by kernel_rfl) (by kernel_rfl) (fun _ _ _ h => h) (Or.inl ⟨by rfl, ?_⟩) (by assumption) ?_
          rotate_left
          · intro w hSw; go_simp; try with_reducible rfl
          try simp only [Act.put, List.setIfInBounds_toArray, List.set_cons_zero, List.set_cons_succ]
          refine wpAnyH_take (i := 30) (oi := ⟨some 90, .load 24 (.tmp 89), _, _, _, some (15, true)⟩) (v := _) rfl (by kernel_rfl) (by kernel_rfl) (by kernel_rfl) (fun _ _ _ h => h) (yieldsIf_load_mid (by rfl) 24 (.tmp 89) (by rfl) _ (0) (by rfl) _ _ (fun _ hs => XV.out _ (hCx.trans hs)) Tryd.underlying24 rfl (sizeVw17)) (by assumption) ?_
          try simp only [Act.put, List.setIfInBounds_toArray, List.set_cons_zero, List.set_cons_succ]
          refine wpAnyH_take (i := 31) (oi := ⟨some 91, .load 30 (.tmp 9), _, _, _, some (15, true)⟩) (v := _) rfl (by kernel_rfl) (by kernel_rfl) (by kernel_rfl) (fun _ _ _ h => h) (yieldsIf_load_mid (by rfl) 30 (.tmp 9) (by rfl) _ (0) (by rfl) _ _ (fun _ hs => XM.out _ hs) Tryd.underlying30 rfl (by rw [Lm.out]; exact sizeM)) (by assumption) ?_
          try simp only [Act.put, List.setIfInBounds_toArray, List.set_cons_zero, List.set_cons_succ]
          refine wpAnyH_take (i := 32) (oi := ⟨some 92, _, _, _, _, some (15, true)⟩) (v := ?_) rfl (by kernel_rfl) (by kernel_rfl) (by kernel_rfl) (fun _ _ _ h => h) (Or.inl ⟨by rfl, ?_⟩) (by assumption) ?_
          rotate_left
          · intro w hSw; go_simp; try with_reducible rfl
          try simp only [Act.put, List.setIfInBounds_toArray, List.set_cons_zero, List.set_cons_succ]
          refine wpAnyH_ready (rs := [33]) (by kernel_rfl) (by simp) ?_
          refine AllReadyH.cons (o := ⟨some 93, _, _, _, _, some (15, true)⟩) rfl (fun K hK => ?_) AllReadyH.nil
          go_simp
          refine (Hcp.out _ _ _ ((hK4.below hD).below hHeld.below) ((hk.below hD).below hHeld.below) (hall.below hHeld.below)).mono ?_
          rintro e' y2 ⟨v8, rfl, hv8, hE2⟩
          obtain ⟨A8, c8, rfl, _, _⟩ := hv8.slShape
          refine hK.out _ _ (hHeld.belowR hE2) (fun hHeld => ?_)
          clear hK K
          try simp only [Act.put, List.setIfInBounds_toArray, List.set_cons_zero, List.set_cons_succ]
          refine wpAnyH_ready (rs := [34]) (by kernel_rfl) (by simp) ?_
          refine AllReadyH.cons (o := ⟨some 94, _, _, _, _, some (15, true)⟩) rfl (fun K hK => ?_) AllReadyH.nil
          go_simp
          refine (Hck.out _ _ _ ((hK4.below hD).below hHeld.below) ((hk.below hD).below hHeld.below) hv8).mono ?_
          rintro e' y3 ⟨rfl, hE3⟩
          refine hK.out _ _ (hHeld.belowR hE3) (fun hHeld => ?_)
          clear hK K
          try simp only [Act.put, List.setIfInBounds_toArray, List.set_cons_zero, List.set_cons_succ]
          refine wpAnyH_take (i := 35) (oi := ⟨some 95, _, _, _, _, some (15, true)⟩) (v := ?_) rfl (by kernel_rfl) (by kernel_rfl) (by kernel_rfl) (fun _ _ _ h => h) (Or.inl ⟨by rfl, ?_⟩) (by assumption) ?_
          rotate_left
          · intro w hSw; go_simp; try with_reducible rfl
          try simp only [Act.put, List.setIfInBounds_toArray, List.set_cons_zero, List.set_cons_succ]
          refine wpAnyH_take (i := 36) (oi := ⟨some 96, _, _, _, _, none⟩) (v := ?_) rfl (by kernel_rfl) (by kernel_rfl) (by kernel_rfl) (fun _ _ _ h => h) (Or.inl ⟨by rfl, ?_⟩) (by assumption) ?_
          rotate_left
          · intro w hSw; go_simp; try with_reducible rfl
          try simp only [Act.put, List.setIfInBounds_toArray, List.set_cons_zero, List.set_cons_succ]
          refine wpAnyH_take (i := 37) (oi := ⟨some 6, _, _, _, _, none⟩) (v := ?_) rfl (by kernel_rfl) (by kernel_rfl) (by kernel_rfl) (fun _ _ _ h => h) (Or.inl ⟨by rfl, ?_⟩) (by assumption) ?_
          rotate_left
          · intro w hSw; go_simp; try with_reducible rfl
          try simp only [Act.put, List.setIfInBounds_toArray, List.set_cons_zero, List.set_cons_succ]
          refine wpAnyH_done (by kernel_rfl) ?_ _
          refine NoPanic.normal ?_
          go_wp2
          go_ret
          exact ⟨by simp, Ch.below_of hBx hHeld (fun k hk => hk.elim) hBx.size⟩
end Go.Proofs.YtddeeigdcolegaaDoor
