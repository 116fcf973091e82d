/- C3: layer 17: CertsWho. -/
import Derived.Test.YtddeeigdcolegaaDoorC2
namespace Go.Proofs.YtddeeigdcolegaaDoor
open Go.RowKit Go.V
def aK (V : Vc) (m : Mg) (ub up : Value) : List Value := [.int .i64 V.n, .int .u16 (V.m : Int)] ++ m.l ub up
theorem ak_v {V : Vc} {m : Mg} {ub up : Value} {j : Nat} {v : Value} (h : ([.int .i64 V.n, .int .u16 (V.m : Int)] : List Value)[j]? = some v) : (aK V m ub up)[0 + j]? = some v := by
  unfold aK
  rw [Nat.zero_add, List.getElem?_append_left (List.getElem?_eq_some_iff.1 h).1]
  exact h
theorem ak_m {V : Vc} {m : Mg} {ub up : Value} {j : Nat} {v : Value} (h : (m.l ub up)[j]? = some v) : (aK V m ub up)[2 + j]? = some v := by
  unfold aK
  rw [List.getElem?_append_right (by simp)]
  rw [← h]
  congr 1
  simp
theorem own_int {w : World} {base : Nat} {t : TypeId} {v : Value} {l : List Nat} (ho : w.ownsRow base t 1 v l.length (ivs l)) (hl : 0 < l.length) : ∃ g cap, v = .slice (some ⟨g, 0, none⟩) l.length cap ∧ ∀ (j x : Nat), l[j]? = some x → w.cell? ⟨g, j, none⟩ = some (.int .i64 (x : Int)) := by
  rcases ho.2 with ⟨rfl, h0⟩ | ⟨g, cap, cur, rfl, hg, hh, h1, h2, h3, h4⟩
  · omega
  · refine ⟨g, cap, rfl, fun j x hx => ?_⟩
    have := ho.cells (g := g) rfl j (.int .i64 (x : Int)) (by unfold ivs; rw [List.getElem?_map, hx]; rfl)
    rw [add_mk, Nat.zero_add] at this
    exact this
set_option maxRecDepth 100000 in
set_option maxHeartbeats 16000000 in
theorem certsWho_law (V : Vc) (m : Mg) (P : List (List UInt8)) (ub up pv : Value) (F1 F2 H : Nat → Prop) (w : World) (hKS : KS w) (hV : in64w V.n ∧ V.m < 65536) (hm : MgIn m) (hub : Rd w F1 ub (bys m.b)) (hup : Rd w F2 up (tx m.ps)) (hp : Rd w H pv (tx P)) :
    Calls Tryd.prog 3 #[.agg (aK V m ub up).toArray, pv] w fun e w' => e = .returned (.bool true) ∧ Below w.heap.size w w' := by
  obtain ⟨n, M⟩ := V
  obtain ⟨A, c, rfl, hcA, hcm⟩ := hp.slShape
  have hb2 := Blk.new' w 32 (aK ⟨n, M⟩ m ub up)
  have hB : Below w.heap.size w (w.alloc (.cells (aK ⟨n, M⟩ m ub up).toArray 32)) := (Below.refl _ _).alloc (Nat.le_refl _) _
  have Hmv : Hid (∀ j v, ([.int .i64 n, .int .u16 (M : Int)] : List Value)[j]? = some v → (aK ⟨n, M⟩ m ub up)[0 + j]? = some v) := fun j v h => ak_v (V := ⟨n, M⟩) h
  have Hmm : Hid (∀ j v, (m.l ub up)[j]? = some v → (aK ⟨n, M⟩ m ub up)[2 + j]? = some v) := fun j v h => ak_m h
  have hlm : (m.l ub up).length = 39 := len_mg hm.h _ _
  have Hlm := hid hlm
  have Hlo := hid (long17_any P (.slice A P.length c) H)
  obtain ⟨la, hla⟩ : ∃ l, l = aK ⟨n, M⟩ m ub up := ⟨_, rfl⟩
  rw [← hla] at hb2 hB Hmv Hmm ⊢
  clear hla
  go_enter Tryd.func3, Tryd.ntmps3
  go_wp2_with (fail)
  obtain ⟨w0, hw0⟩ : ∃ x, x = w.alloc (.cells la.toArray 32) := ⟨_, rfl⟩
  rw [← hw0] at hb2 hB ⊢
  obtain ⟨g2, hg2⟩ : ∃ g, g = w.heap.size := ⟨_, rfl⟩
  rw [← hg2] at hb2 ⊢
  clear hw0 hg2
  refine (wakes17_any _ (hKS.below hB)).mono ?_
  rintro e w1 ⟨rfl, hB1⟩
  have hb2 := hb2.below hB1
  have hB := hB.trans (hB1.mono hB.size)
  clear hB1
  go_wp2_with (fail)
  refine (Hlo.out _ (hp.below hB)).mono ?_
  rintro e w2 ⟨rfl, hB2⟩
  have hb2 := hb2.below hB2
  have hB := hB.trans (hB2.mono hB.size)
  clear hB2 Hlo
  cases hL : longC P with
  | true =>
    clear hL
    go_wp2
    go_ret
    exact ⟨rfl, hB⟩
  | false =>
    have hbd := longC_bd hL
    have hPs : PsSm P := ⟨by omega, fun X hX => by have := hbd.2 X hX; omega⟩
    have HPs := hid hPs
    have hP24 := hbd.1
    have HPl : Hid (∀ X ∈ P, X.length ≤ 1000000) := fun X hX => by have := hbd.2 X hX; omega
    clear hL hbd hPs
    go_wp2_with (fail)
    refine (table17_any _).mono ?_
    rintro e w3 ⟨uk, rfl, hk, hB3⟩
    have hb2 := hb2.below hB3
    have hB := hB.trans (hB3.mono hB.size)
    obtain ⟨Ak, ck, rfl, _, _⟩ := hk.slShape
    go_wp2_with (refine wp_newst 37 5 (.tmp 13) rfl rfl rfl rfl rfl rfl zeroKs17 (l := [.slice Ak ks17.length ck, .slice none 0 0]) rfl rfl sizeKs17 (by intro v hv; simp at hv; rcases hv with rfl | rfl <;> rfl) (by simp) ?_; intro w4 b5 hB4 hs4; refine wp_stop ?_)
    have hb2 := hb2.below hB4
    have hk := hk.below hB4
    have hB := hB.trans (hB4.mono hB.size)
    obtain ⟨g5, hg5⟩ : ∃ g, g = w3.heap.size := ⟨_, rfl⟩
    rw [← hg5] at b5 ⊢
    clear hB3 hB4 hs4 hg5
    refine wp_go ?_
    have Hcw := hid (fun Y h1 h2 h3 h4 h5 => cwho17_any ks17 ⟨n, M⟩ P m (.slice Ak ks17.length ck) (.slice none 0 0) (.slice A P.length c) ub up (fun b => w2.heap.size ≤ b) H F1 F2 Y h1 ks17_sm h2 h3 HPs.out hV hm h4 h5)
    have Hrw := hid (fun Y h2 h3 => rwho17_any ks17 ⟨n, M⟩ P m (.slice Ak ks17.length ck) (.slice none 0 0) (.slice A P.length c) ub up (fun b => w2.heap.size ≤ b) H Y ks17_sm h2 h3 (by omega) HPl.out hV.2 hm.h)
    have Hcp := hid (fun Y h1 h2 h3 h4 h5 => cpick17_any ks17 ⟨n, M⟩ P m (.slice Ak ks17.length ck) (.slice none 0 0) (.slice A P.length c) ub up (fun b => w2.heap.size ≤ b) H F1 F2 Y h1 ks17_sm h2 h3 HPs.out hV hm h4 h5)
    have Hrp := hid (fun Y h2 h3 => rpick17_any ks17 ⟨n, M⟩ P m (.slice Ak ks17.length ck) (.slice none 0 0) (.slice A P.length c) ub up (fun b => w2.heap.size ≤ b) H Y ks17_sm h2 h3 (by omega) HPl.out hV.2 hm.h)
    have hwl := who_len ks17 ⟨n, M⟩ (qOf m) P
    have Hpl := hid (pick_len ks17 ⟨n, M⟩ (qOf m) P)
    obtain ⟨L, hLL⟩ : ∃ L, L = whoC ks17 ⟨n, M⟩ (qOf m) P := ⟨_, rfl⟩
    obtain ⟨KP, hKK⟩ : ∃ KP, KP = pickC ks17 ⟨n, M⟩ (qOf m) P := ⟨_, rfl⟩
    rw [← hLL] at Hcw Hrw hwl
    rw [← hKK] at Hcp Hrp Hpl
    clear hLL hKK
    obtain ⟨lm, hlm'⟩ : ∃ l, l = m.l ub up := ⟨_, rfl⟩
    rw [← hlm'] at Hcw Hrw Hcp Hrp Hmm Hlm
    clear hlm hlm'
    unfold vw at Hcw Hrw Hcp Hrp
    have hK4 := hKS.below hB
    have hp4 := hp.below hB
    have hub4 := hub.below hB
    have hup4 := hup.below hB
    have XK : Hid (∀ Z, Ch nob w4 Z → Z.rangeAt g5 0 [.slice Ak ks17.length ck, .slice none 0 0]) := fun Z h => (b5.below h.below).whole
    have XV : Hid (∀ Z, Ch nob w4 Z → Z.rangeAt g2 0 [.int .i64 n, .int .u16 (M : Int)]) := fun Z h => (hb2.below h.below).range 0 _ Hmv.out
    have XM : Hid (∀ Z, Ch nob w4 Z → Z.rangeAt g2 2 lm) := fun Z h => (hb2.below h.below).range 2 _ Hmm.out
    go_upto_region 6 with (fail)
    refine wp_region_noPanic ?_
    refine wp_region_held_drew (S := Ch nob w4) (by kernel_rfl) ((Ch.refl _ _).drew) (fun hHeld => ?_)
    refine wpAnyH_take (i := 0) (oi := ⟨some 14, .load 37 (.tmp 5), _, _, _, none⟩) (v := _) rfl (by kernel_rfl) (by kernel_rfl) (by kernel_rfl) (fun _ _ _ h => h) (yieldsIf_load_mid (by rfl) 37 (.tmp 5) (by rfl) _ (0) (by rfl) _ _ (fun _ hs => XK.out _ hs) Tryd.underlying37 rfl (sizeKs17)) (by assumption) ?_
    try simp only [Act.put, List.setIfInBounds_toArray, List.set_cons_zero, List.set_cons_succ]
    refine wpAnyH_take (i := 1) (oi := ⟨some 15, _, _, _, _, none⟩) (v := ?_) rfl (by kernel_rfl) (by kernel_rfl) (by kernel_rfl) (fun _ _ _ h => h) (Or.inl ⟨by rfl, ?_⟩) (by assumption) ?_
    rotate_left
    · intro w hSw; go_simp; try with_reducible rfl
    try simp only [Act.put, List.setIfInBounds_toArray, List.set_cons_zero, List.set_cons_succ]
    refine wpAnyH_take (i := 2) (oi := ⟨some 16, .load 24 (.tmp 15), _, _, _, none⟩) (v := _) rfl (by kernel_rfl) (by kernel_rfl) (by kernel_rfl) (fun _ _ _ h => h) (yieldsIf_load_mid (by rfl) 24 (.tmp 15) (by rfl) _ (0) (by rfl) _ _ (fun _ hs => XV.out _ hs) Tryd.underlying24 rfl (sizeVw17)) (by assumption) ?_
    try simp only [Act.put, List.setIfInBounds_toArray, List.set_cons_zero, List.set_cons_succ]
    refine wpAnyH_take (i := 3) (oi := ⟨some 17, _, _, _, _, none⟩) (v := ?_) rfl (by kernel_rfl) (by kernel_rfl) (by kernel_rfl) (fun _ _ _ h => h) (Or.inl ⟨by rfl, ?_⟩) (by assumption) ?_
    rotate_left
    · intro w hSw; go_simp; try with_reducible rfl
    try simp only [Act.put, List.setIfInBounds_toArray, List.set_cons_zero, List.set_cons_succ]
    refine wpAnyH_take (i := 4) (oi := ⟨some 18, .load 30 (.tmp 17), _, _, _, none⟩) (v := _) rfl (by kernel_rfl) (by kernel_rfl) (by kernel_rfl) (fun _ _ _ h => h) (yieldsIf_load_mid (by rfl) 30 (.tmp 17) (by rfl) _ (2) (by rfl) _ _ (fun _ hs => XM.out _ hs) Tryd.underlying30 rfl (by rw [Hlm.out]; exact sizeM)) (by assumption) ?_
    try simp only [Act.put, List.setIfInBounds_toArray, List.set_cons_zero, List.set_cons_succ]
    refine wpAnyH_take (i := 5) (oi := ⟨some 19, _, _, _, _, none⟩) (v := ?_) rfl (by kernel_rfl) (by kernel_rfl) (by kernel_rfl) (fun _ _ _ h => h) (Or.inl ⟨by rfl, ?_⟩) (by assumption) ?_
    rotate_left
    · intro w hSw; go_simp; try with_reducible rfl
    try simp only [Act.put, List.setIfInBounds_toArray, List.set_cons_zero, List.set_cons_succ]
    refine wpAnyH_take (i := 7) (oi := ⟨some 21, .load 37 (.tmp 5), _, _, _, none⟩) (v := _) rfl (by kernel_rfl) (by kernel_rfl) (by kernel_rfl) (fun _ _ _ h => h) (yieldsIf_load_mid (by rfl) 37 (.tmp 5) (by rfl) _ (0) (by rfl) _ _ (fun _ hs => XK.out _ hs) Tryd.underlying37 rfl (sizeKs17)) (by assumption) ?_
    try simp only [Act.put, List.setIfInBounds_toArray, List.set_cons_zero, List.set_cons_succ]
    refine wpAnyH_take (i := 8) (oi := ⟨some 22, _, _, _, _, none⟩) (v := ?_) rfl (by kernel_rfl) (by kernel_rfl) (by kernel_rfl) (fun _ _ _ h => h) (Or.inl ⟨by rfl, ?_⟩) (by assumption) ?_
    rotate_left
    · intro w hSw; go_simp; try with_reducible rfl
    try simp only [Act.put, List.setIfInBounds_toArray, List.set_cons_zero, List.set_cons_succ]
    refine wpAnyH_take (i := 9) (oi := ⟨some 23, .load 24 (.tmp 22), _, _, _, none⟩) (v := _) rfl (by kernel_rfl) (by kernel_rfl) (by kernel_rfl) (fun _ _ _ h => h) (yieldsIf_load_mid (by rfl) 24 (.tmp 22) (by rfl) _ (0) (by rfl) _ _ (fun _ hs => XV.out _ hs) Tryd.underlying24 rfl (sizeVw17)) (by assumption) ?_
    try simp only [Act.put, List.setIfInBounds_toArray, List.set_cons_zero, List.set_cons_succ]
    refine wpAnyH_take (i := 10) (oi := ⟨some 24, _, _, _, _, none⟩) (v := ?_) rfl (by kernel_rfl) (by kernel_rfl) (by kernel_rfl) (fun _ _ _ h => h) (Or.inl ⟨by rfl, ?_⟩) (by assumption) ?_
    rotate_left
    · intro w hSw; go_simp; try with_reducible rfl
    try simp only [Act.put, List.setIfInBounds_toArray, List.set_cons_zero, List.set_cons_succ]
    refine wpAnyH_take (i := 11) (oi := ⟨some 25, .load 30 (.tmp 24), _, _, _, none⟩) (v := _) rfl (by kernel_rfl) (by kernel_rfl) (by kernel_rfl) (fun _ _ _ h => h) (yieldsIf_load_mid (by rfl) 30 (.tmp 24) (by rfl) _ (2) (by rfl) _ _ (fun _ hs => XM.out _ hs) Tryd.underlying30 rfl (by rw [Hlm.out]; exact sizeM)) (by assumption) ?_
    try simp only [Act.put, List.setIfInBounds_toArray, List.set_cons_zero, List.set_cons_succ]
    refine wpAnyH_take (i := 12) (oi := ⟨some 26, _, _, _, _, none⟩) (v := ?_) rfl (by kernel_rfl) (by kernel_rfl) (by kernel_rfl) (fun _ _ _ h => h) (Or.inl ⟨by rfl, ?_⟩) (by assumption) ?_
    rotate_left
    · intro w hSw; go_simp; try with_reducible rfl
    try simp only [Act.put, List.setIfInBounds_toArray, List.set_cons_zero, List.set_cons_succ]
    refine wpAnyH_ready (rs := [6]) (by kernel_rfl) (by simp) ?_
    refine AllReadyH.cons (o := ⟨some 20, _, _, _, _, none⟩) rfl (fun K hK => ?_) AllReadyH.nil
    go_simp
    refine (Hcw.out _ (hK4.below hHeld.below) (hk.below hHeld.below) (hp4.below hHeld.below) (hub4.below hHeld.below) (hup4.below hHeld.below)).mono ?_
    rintro e' x1 ⟨v1, rfl, ho1, hB61⟩
    refine hK.out _ _ (hHeld.belowR hB61) (fun hHeld => ?_)
    clear hK K
    try simp only [Act.put, List.setIfInBounds_toArray, List.set_cons_zero, List.set_cons_succ]
    refine wpAnyH_ready (rs := [13]) (by kernel_rfl) (by simp) ?_
    refine AllReadyH.cons (o := ⟨some 27, _, _, _, _, none⟩) rfl (fun K hK => ?_) AllReadyH.nil
    go_simp
    refine (Hrw.out _ (hk.below hHeld.below) (hp4.below hHeld.below)).mono ?_
    rintro e' x2 ⟨v2, rfl, ho2, hB62⟩
    refine hK.out _ _ (hHeld.belowR hB62) (fun hHeld => ?_)
    clear hK K
    try simp only [Act.put, List.setIfInBounds_toArray, List.set_cons_zero, List.set_cons_succ]
    refine wpAnyH_take (i := 14) (oi := ⟨some 6, _, _, _, _, none⟩) (v := ?_) rfl (by kernel_rfl) (by kernel_rfl) (by kernel_rfl) (fun _ _ _ h => h) (Or.inl ⟨by rfl, ?_⟩) (by assumption) ?_
    rotate_left
    · intro w hSw; go_simp; try with_reducible rfl
    try simp only [Act.put, List.setIfInBounds_toArray, List.set_cons_zero, List.set_cons_succ]
    refine wpAnyH_take (i := 15) (oi := ⟨some 7, _, _, _, _, none⟩) (v := ?_) rfl (by kernel_rfl) (by kernel_rfl) (by kernel_rfl) (fun _ _ _ h => h) (Or.inl ⟨by rfl, ?_⟩) (by assumption) ?_
    rotate_left
    · intro w hSw; go_simp; try with_reducible rfl
    try simp only [Act.put, List.setIfInBounds_toArray, List.set_cons_zero, List.set_cons_succ]
    refine wpAnyH_done (by kernel_rfl) ?_ _
    refine NoPanic.normal ?_
    have hB6 := hHeld.below
    have ho1 := own_bel ho1 hB62
    have hBw := hB.trans (hB6.mono hB.size)
    obtain ⟨A6, c6, rfl⟩ := own_shape ho1
    obtain ⟨A7, c7, rfl⟩ := own_shape ho2
    go_wp2
    go_loopw [35] (fun iv wr => ∃ i : Nat, i ≤ L.length ∧ iv = .int .i64 i ∧ Below x2.heap.size x2 wr) (fun i _ => L.length - (intOf i).toNat)
    case atStart => exact ⟨0, by omega, rfl, Below.refl _ _⟩
    case round =>
      obtain ⟨i, hi, rfl, hBr⟩ := hrel
      have hBx := hBw.trans (hBr.mono hBw.size)
      by_cases hlt : i < L.length
      · have hI : (i : Int) < (L.length : Int) := by omega
        obtain ⟨x, hx⟩ : ∃ x, L[i]? = some x := ⟨_, List.getElem?_eq_getElem hlt⟩
        obtain ⟨h6, k6, e6, hc6⟩ := own_int (own_bel ho1 hBr) (by omega)
        obtain ⟨h7, k7, e7, hc7⟩ := own_int (own_bel ho2 hBr) (by omega)
        injection e6 with e6 _ _
        injection e7 with e7 _ _
        subst e6 e7
        have c1 := hc6 i x hx
        have c2 := hc7 i x hx
        have C1 : Hid (∀ Z, Ch nob wr Z → Z.cell? ⟨h6, i, none⟩ = some (.int .i64 (x : Int))) := fun Z h => (h.below.cell (lt_of_cell c1)).trans c1
        have C2 : Hid (∀ Z, Ch nob wr Z → Z.cell? ⟨h7, i, none⟩ = some (.int .i64 (x : Int))) := fun Z h => (h.below.cell (lt_of_cell c2)).trans c2
        clear hx hc6 hc7 c1 c2
        have hlt2 : i < L.length := hlt
        go_upto_region 12 with (fail)
        refine wp_region_noPanic ?_
        refine wp_region_held_drew (S := Ch nob wr) (by kernel_rfl) ((Ch.refl _ _).drew) (fun hHeld => ?_)
        refine wpAnyH_take (i := 0) (oi := ⟨some 38, _, _, _, _, none⟩) (v := ?_) rfl (by kernel_rfl) (by kernel_rfl) (by kernel_rfl) (fun _ _ _ h => h) (Or.inl ⟨by rfl, ?_⟩) (by assumption) ?_
        rotate_left
        · intro w hSw; go_simp; try with_reducible rfl
        try simp only [Act.put, List.setIfInBounds_toArray, List.set_cons_zero, List.set_cons_succ]
        refine wpAnyH_take (i := 1) (oi := ⟨some 39, _, _, _, _, none⟩) (v := ?_) rfl (by kernel_rfl) (by kernel_rfl) (by kernel_rfl) (fun _ _ _ h => h) (Or.inl ⟨by rfl, ?_⟩) (by assumption) ?_
        rotate_left
        · intro w hSw; go_simp; try with_reducible rfl
        try simp only [Act.put, List.setIfInBounds_toArray, List.set_cons_zero, List.set_cons_succ]
        refine wpAnyH_take (i := 2) (oi := ⟨some 40, _, _, _, _, none⟩) (v := ?_) rfl (by kernel_rfl) (by kernel_rfl) (by kernel_rfl) (fun _ _ _ h => h) (Or.inl ⟨by rfl, ?_⟩) (by assumption) ?_
        rotate_left
        · intro w hSw; go_simp; try with_reducible rfl
        try simp only [Act.put, List.setIfInBounds_toArray, List.set_cons_zero, List.set_cons_succ]
        refine wpAnyH_take (i := 3) (oi := ⟨some 41, _, _, _, _, none⟩) (v := ?_) rfl (by kernel_rfl) (by kernel_rfl) (by kernel_rfl) (fun _ _ _ h => h) (Or.inl ⟨by rfl, ?_⟩) (by assumption) ?_
        rotate_left
        · intro w hSw; have hcw := C1.out w hSw; go_simp; try with_reducible rfl
        try simp only [Act.put, List.setIfInBounds_toArray, List.set_cons_zero, List.set_cons_succ]
        refine wpAnyH_take (i := 4) (oi := ⟨some 42, _, _, _, _, none⟩) (v := ?_) rfl (by kernel_rfl) (by kernel_rfl) (by kernel_rfl) (fun _ _ _ h => h) (Or.inl ⟨by rfl, ?_⟩) (by assumption) ?_
        rotate_left
        · intro w hSw; go_simp; try with_reducible rfl
        try simp only [Act.put, List.setIfInBounds_toArray, List.set_cons_zero, List.set_cons_succ]
        refine wpAnyH_take (i := 5) (oi := ⟨some 43, _, _, _, _, none⟩) (v := ?_) rfl (by kernel_rfl) (by kernel_rfl) (by kernel_rfl) (fun _ _ _ h => h) (Or.inl ⟨by rfl, ?_⟩) (by assumption) ?_
        rotate_left
        · intro w hSw; go_simp; try with_reducible rfl
        try simp only [Act.put, List.setIfInBounds_toArray, List.set_cons_zero, List.set_cons_succ]
        refine wpAnyH_take (i := 6) (oi := ⟨some 44, _, _, _, _, none⟩) (v := ?_) rfl (by kernel_rfl) (by kernel_rfl) (by kernel_rfl) (fun _ _ _ h => h) (Or.inl ⟨by rfl, ?_⟩) (by assumption) ?_
        rotate_left
        · intro w hSw; go_simp; try with_reducible rfl
        try simp only [Act.put, List.setIfInBounds_toArray, List.set_cons_zero, List.set_cons_succ]
        refine wpAnyH_take (i := 7) (oi := ⟨some 45, _, _, _, _, none⟩) (v := ?_) rfl (by kernel_rfl) (by kernel_rfl) (by kernel_rfl) (fun _ _ _ h => h) (Or.inl ⟨by rfl, ?_⟩) (by assumption) ?_
        rotate_left
        · intro w hSw; have hcw := C2.out w hSw; go_simp; try with_reducible rfl
        try simp only [Act.put, List.setIfInBounds_toArray, List.set_cons_zero, List.set_cons_succ]
        refine wpAnyH_take (i := 8) (oi := ⟨some 46, _, _, _, _, none⟩) (v := ?_) rfl (by kernel_rfl) (by kernel_rfl) (by kernel_rfl) (fun _ _ _ h => h) (Or.inl ⟨by rfl, ?_⟩) (by assumption) ?_
        rotate_left
        · intro w hSw; go_simp; try with_reducible rfl
        try simp only [Act.put, List.setIfInBounds_toArray, List.set_cons_zero, List.set_cons_succ]
        refine wpAnyH_done (by kernel_rfl) ?_ _
        refine NoPanic.normal ?_
        go_wp2
        go_roundw
        case rel => exact ⟨i + 1, by omega, by go_num, Ch.below_of hBr hHeld (fun k hk => hk.elim) hBr.size⟩
        case measure => simp [intOf]; omega
      · have hi' : i = L.length := by omega
        subst hi'
        have hI : ¬ (L.length : Int) < (L.length : Int) := by omega
        have hB64 := hB6.trans (hBr.mono hB6.size)
        have hkr := hk.below hB64
        have hpr := hp4.below hB64
        have hubr := hub4.below hB64
        have hupr := hup4.below hB64
        have hKr := hK4.below hB64
        have hCr : Ch nob w4 wr := Ch.of_below hB64
        have YK : Hid (∀ Z, Ch nob wr Z → Z.rangeAt g5 0 [.slice Ak ks17.length ck, .slice none 0 0]) := fun Z h => XK.out Z (hCr.trans h)
        have YV : Hid (∀ Z, Ch nob wr Z → Z.rangeAt g2 0 [.int .i64 n, .int .u16 (M : Int)]) := fun Z h => XV.out Z (hCr.trans h)
        have YM : Hid (∀ Z, Ch nob wr Z → Z.rangeAt g2 2 lm) := fun Z h => XM.out Z (hCr.trans h)
        go_upto_region 15 with (fail)
        refine wp_region_noPanic ?_
        refine wp_region_held_drew (S := Ch nob wr) (by kernel_rfl) ((Ch.refl _ _).drew) (fun hHeld => ?_)
        refine wpAnyH_take (i := 0) (oi := ⟨some 48, .load 37 (.tmp 5), _, _, _, none⟩) (v := _) rfl (by kernel_rfl) (by kernel_rfl) (by kernel_rfl) (fun _ _ _ h => h) (yieldsIf_load_mid (by rfl) 37 (.tmp 5) (by rfl) _ (0) (by rfl) _ _ (fun _ hs => YK.out _ hs) Tryd.underlying37 rfl (sizeKs17)) (by assumption) ?_
        try simp only [Act.put, List.setIfInBounds_toArray, List.set_cons_zero, List.set_cons_succ]
        refine wpAnyH_take (i := 1) (oi := ⟨some 49, _, _, _, _, none⟩) (v := ?_) rfl (by kernel_rfl) (by kernel_rfl) (by kernel_rfl) (fun _ _ _ h => h) (Or.inl ⟨by rfl, ?_⟩) (by assumption) ?_
        rotate_left
        · intro w hSw; go_simp; try with_reducible rfl
        try simp only [Act.put, List.setIfInBounds_toArray, List.set_cons_zero, List.set_cons_succ]
        refine wpAnyH_take (i := 2) (oi := ⟨some 50, .load 24 (.tmp 49), _, _, _, none⟩) (v := _) rfl (by kernel_rfl) (by kernel_rfl) (by kernel_rfl) (fun _ _ _ h => h) (yieldsIf_load_mid (by rfl) 24 (.tmp 49) (by rfl) _ (0) (by rfl) _ _ (fun _ hs => YV.out _ hs) Tryd.underlying24 rfl (sizeVw17)) (by assumption) ?_
        try simp only [Act.put, List.setIfInBounds_toArray, List.set_cons_zero, List.set_cons_succ]
        refine wpAnyH_take (i := 3) (oi := ⟨some 51, _, _, _, _, none⟩) (v := ?_) rfl (by kernel_rfl) (by kernel_rfl) (by kernel_rfl) (fun _ _ _ h => h) (Or.inl ⟨by rfl, ?_⟩) (by assumption) ?_
        rotate_left
        · intro w hSw; go_simp; try with_reducible rfl
        try simp only [Act.put, List.setIfInBounds_toArray, List.set_cons_zero, List.set_cons_succ]
        refine wpAnyH_take (i := 4) (oi := ⟨some 52, .load 30 (.tmp 51), _, _, _, none⟩) (v := _) rfl (by kernel_rfl) (by kernel_rfl) (by kernel_rfl) (fun _ _ _ h => h) (yieldsIf_load_mid (by rfl) 30 (.tmp 51) (by rfl) _ (2) (by rfl) _ _ (fun _ hs => YM.out _ hs) Tryd.underlying30 rfl (by rw [Hlm.out]; exact sizeM)) (by assumption) ?_
        try simp only [Act.put, List.setIfInBounds_toArray, List.set_cons_zero, List.set_cons_succ]
        refine wpAnyH_take (i := 5) (oi := ⟨some 53, _, _, _, _, none⟩) (v := ?_) rfl (by kernel_rfl) (by kernel_rfl) (by kernel_rfl) (fun _ _ _ h => h) (Or.inl ⟨by rfl, ?_⟩) (by assumption) ?_
        rotate_left
        · intro w hSw; go_simp; try with_reducible rfl
        try simp only [Act.put, List.setIfInBounds_toArray, List.set_cons_zero, List.set_cons_succ]
        refine wpAnyH_take (i := 7) (oi := ⟨some 55, .load 37 (.tmp 5), _, _, _, none⟩) (v := _) rfl (by kernel_rfl) (by kernel_rfl) (by kernel_rfl) (fun _ _ _ h => h) (yieldsIf_load_mid (by rfl) 37 (.tmp 5) (by rfl) _ (0) (by rfl) _ _ (fun _ hs => YK.out _ hs) Tryd.underlying37 rfl (sizeKs17)) (by assumption) ?_
        try simp only [Act.put, List.setIfInBounds_toArray, List.set_cons_zero, List.set_cons_succ]
        refine wpAnyH_take (i := 8) (oi := ⟨some 56, _, _, _, _, none⟩) (v := ?_) rfl (by kernel_rfl) (by kernel_rfl) (by kernel_rfl) (fun _ _ _ h => h) (Or.inl ⟨by rfl, ?_⟩) (by assumption) ?_
        rotate_left
        · intro w hSw; go_simp; try with_reducible rfl
        try simp only [Act.put, List.setIfInBounds_toArray, List.set_cons_zero, List.set_cons_succ]
        refine wpAnyH_take (i := 9) (oi := ⟨some 57, .load 24 (.tmp 56), _, _, _, none⟩) (v := _) rfl (by kernel_rfl) (by kernel_rfl) (by kernel_rfl) (fun _ _ _ h => h) (yieldsIf_load_mid (by rfl) 24 (.tmp 56) (by rfl) _ (0) (by rfl) _ _ (fun _ hs => YV.out _ hs) Tryd.underlying24 rfl (sizeVw17)) (by assumption) ?_
        try simp only [Act.put, List.setIfInBounds_toArray, List.set_cons_zero, List.set_cons_succ]
        refine wpAnyH_take (i := 10) (oi := ⟨some 58, _, _, _, _, none⟩) (v := ?_) rfl (by kernel_rfl) (by kernel_rfl) (by kernel_rfl) (fun _ _ _ h => h) (Or.inl ⟨by rfl, ?_⟩) (by assumption) ?_
        rotate_left
        · intro w hSw; go_simp; try with_reducible rfl
        try simp only [Act.put, List.setIfInBounds_toArray, List.set_cons_zero, List.set_cons_succ]
        refine wpAnyH_take (i := 11) (oi := ⟨some 59, .load 30 (.tmp 58), _, _, _, none⟩) (v := _) rfl (by kernel_rfl) (by kernel_rfl) (by kernel_rfl) (fun _ _ _ h => h) (yieldsIf_load_mid (by rfl) 30 (.tmp 58) (by rfl) _ (2) (by rfl) _ _ (fun _ hs => YM.out _ hs) Tryd.underlying30 rfl (by rw [Hlm.out]; exact sizeM)) (by assumption) ?_
        try simp only [Act.put, List.setIfInBounds_toArray, List.set_cons_zero, List.set_cons_succ]
        refine wpAnyH_take (i := 12) (oi := ⟨some 60, _, _, _, _, none⟩) (v := ?_) rfl (by kernel_rfl) (by kernel_rfl) (by kernel_rfl) (fun _ _ _ h => h) (Or.inl ⟨by rfl, ?_⟩) (by assumption) ?_
        rotate_left
        · intro w hSw; go_simp; try with_reducible rfl
        try simp only [Act.put, List.setIfInBounds_toArray, List.set_cons_zero, List.set_cons_succ]
        refine wpAnyH_ready (rs := [6]) (by kernel_rfl) (by simp) ?_
        refine AllReadyH.cons (o := ⟨some 54, _, _, _, _, none⟩) rfl (fun K hK => ?_) AllReadyH.nil
        go_simp
        refine (Hcp.out _ (hKr.below hHeld.below) (hkr.below hHeld.below) (hpr.below hHeld.below) (hubr.below hHeld.below) (hupr.below hHeld.below)).mono ?_
        rintro e' y1 ⟨u1, rfl, hu1, hB71⟩
        obtain ⟨B1, d1, rfl, _, _⟩ := hu1.slShape
        refine hK.out _ _ (hHeld.belowR hB71) (fun hHeld => ?_)
        clear hK K
        try simp only [Act.put, List.setIfInBounds_toArray, List.set_cons_zero, List.set_cons_succ]
        refine wpAnyH_ready (rs := [13]) (by kernel_rfl) (by simp) ?_
        refine AllReadyH.cons (o := ⟨some 61, _, _, _, _, none⟩) rfl (fun K hK => ?_) AllReadyH.nil
        go_simp
        refine (Hrp.out _ (hkr.below hHeld.below) (hpr.below hHeld.below)).mono ?_
        rintro e' y2 ⟨u2, rfl, hu2, hB72⟩
        obtain ⟨B2, d2, rfl, _, _⟩ := hu2.slShape
        refine hK.out _ _ (hHeld.belowR hB72) (fun hHeld => ?_)
        clear hK K
        try simp only [Act.put, List.setIfInBounds_toArray, List.set_cons_zero, List.set_cons_succ]
        refine wpAnyH_ready (rs := [14]) (by kernel_rfl) (by simp) ?_
        refine AllReadyH.cons (o := ⟨some 62, _, _, _, _, none⟩) rfl (fun K hK => ?_) AllReadyH.nil
        go_simp
        refine (sameParts_any _ _ KP _ _ _ (hu1.below hB72) hu2 (by have := Hpl.out; omega)).mono ?_
        rintro e' y3 ⟨rfl, hB73⟩
        refine hK.out _ _ (hHeld.belowR hB73) (fun hHeld => ?_)
        clear hK K
        try simp only [Act.put, List.setIfInBounds_toArray, List.set_cons_zero, List.set_cons_succ]
        refine wpAnyH_take (i := 15) (oi := ⟨some 4, _, _, _, _, none⟩) (v := ?_) rfl (by kernel_rfl) (by kernel_rfl) (by kernel_rfl) (fun _ _ _ h => h) (Or.inl ⟨by rfl, ?_⟩) (by assumption) ?_
        rotate_left
        · intro w hSw; go_simp; try with_reducible rfl
        try simp only [Act.put, List.setIfInBounds_toArray, List.set_cons_zero, List.set_cons_succ]
        refine wpAnyH_done (by kernel_rfl) ?_ _
        refine NoPanic.normal ?_
        go_wp2
        go_ret
        exact ⟨rfl, Ch.below_of hBx hHeld (fun k hk => hk.elim) hBx.size⟩
end Go.Proofs.YtddeeigdcolegaaDoor
