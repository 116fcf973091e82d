/- Xt: layer 19: StopsLeast, StopsNil. -/
import Derived.Test.YtnhhbbjkeekneaaDoorXs
import Derived.Deep.RegionHeld3
namespace Go.Proofs.YtnhhbbjkeekneaaDoor
open Go.RowKit Go.V
theorem sizeVw19 : (Tryd.prog.info? 24).map (·.size) = some 2 := by kernel_rfl
theorem beqF19 {a b : Int} (h : a ≠ b) : (a == b) = false := by rw [beq_eq_false_iff_ne]; exact h
/-- who wants what behind some parts -/
def tsF (ks : List (List UInt8)) (V : Vc) (P : List (List UInt8)) : List Nat := P.foldl (tsW ks V) w0W
theorem tsF_next {ks : List (List UInt8)} {V : Vc} {P : List (List UInt8)} {j : Nat} {X : List UInt8} (h : P[j]? = some X) : tsF ks V (P.take (j + 1)) = tsW ks V (tsF ks V (P.take j)) X := by
  unfold tsF
  rw [List.take_add_one, h]
  simp
set_option maxRecDepth 100000 in
set_option maxHeartbeats 8000000 in
theorem stopsLeast_law (n : Int) (M : Nat) (P : List (List UInt8)) (a : Int) (pv : Value) (H : Nat → Prop) (w : World) (hKS : KS w) (hn : in64w n) (hM : M < 65536) (ha : -128 ≤ a ∧ a ≤ 127) (hp : Rd w H pv (tx P)) :
    Calls Tryd.prog 3 #[vw n M, pv, .int .i8 a] w fun e w' => e = .returned (.bool true) ∧ Below w.heap.size w w' := by
  obtain ⟨A, c, rfl, hcA, hcm⟩ := hp.slShape
  have b3 := Blk.new' w 24 [.int .i64 n, .int .u16 (M : Int)]
  have hB : Below w.heap.size w (w.alloc (.cells #[.int .i64 n, .int .u16 (M : Int)] 24)) := (Below.refl _ _).alloc (Nat.le_refl _) _
  have Hlo := hid (fun Y h => long19_any P (.slice A P.length c) H Y h)
  have hba := bldA19
  have hkf := hid (fun Y => keys19_any (.int .i64 0) (.int .u16 0) (.int .i64 0) (.int .i64 0) none 0 0 Y)
  have Hnw := hid (fun (uk : Value) (Y : World) (h1 : KS Y) {G : Nat → Prop} (h2 : Rd Y G uk (tx ks17)) => (show Calls Tryd.prog 7 #[.agg #[uk, .slice none 0 0], .agg #[.int .i64 n, .int .u16 (M : Int)]] Y (fun e w' => ∃ v M', e = .returned v ∧ SX w' v M' (fun b => G b ∧ b < Y.heap.size) ks17 ⟨n, M⟩ w0W ∧ (∀ b, M' b → Y.heap.size ≤ b) ∧ Below Y.heap.size Y w') from snew19_any ks17 ⟨n, M⟩ uk (.slice none 0 0) G Y h1 ks17_sm h2 ⟨hn, hM⟩))
  have htk := hid (fun xv M' N W X u F Y h1 h2 h3 h4 => stake19_any xv M' N ks17 ⟨n, M⟩ W X u F Y h1 ks17_sm h2 h3 h4)
  have hso := hid (fun xv M' N W Y h => ssome19_any xv M' N ks17 ⟨n, M⟩ W a Y ⟨by omega, by omega⟩ h)
  have hen := hid (fun xv M' N W Y h => senough19_any xv M' N ks17 ⟨n, M⟩ W a Y ⟨by omega, by omega⟩ h)
  have hgl := hid (fun W => gr_least n M W a)
  have hg1 := hid (fun W m => (g_lt (W := W) (above := a) (many := m) 41).2)
  have hwa : IntKind.i64.wrap a = a := IntWalk.i64_in _ (by omega)
  have Hnx := hid (fun j X h => tsF_next (ks := ks17) (V := ⟨n, M⟩) (P := P) (j := j) (X := X) h)
  have HF0 : Hid (tsF ks17 ⟨n, M⟩ (P.take 0) = w0W) := hid rfl
  obtain ⟨T, hT⟩ : ∃ T : Nat → List Nat, T = fun j => tsF ks17 ⟨n, M⟩ (P.take j) := ⟨_, rfl⟩
  have Hnx : Hid (∀ j X, P[j]? = some X → T (j + 1) = tsW ks17 ⟨n, M⟩ (T j) X) := hid (by rw [hT]; exact Hnx.out)
  have HF0 : Hid (T 0 = w0W) := hid (by rw [hT]; exact HF0.out)
  clear hT
  unfold vw
  go_enter Tryd.func3, Tryd.ntmps3
  go_wp2_with (fail)
  obtain ⟨w0, hw0⟩ : ∃ x, x = w.alloc (.cells #[.int .i64 n, .int .u16 (M : Int)] 24) := ⟨_, rfl⟩
  rw [← hw0] at b3 hB ⊢
  obtain ⟨g3, hg3⟩ : ∃ g, g = w.heap.size := ⟨_, rfl⟩
  rw [← hg3] at b3 ⊢
  clear hw0 hg3
  refine (wakes19_any _ (hKS.below hB)).mono ?_
  rintro e w1 ⟨rfl, hB1⟩
  have b3 := b3.below hB1
  have hB := hB.trans (hB1.mono hB.size)
  clear hB1
  go_wp2_with (fail)
  refine (Hlo.out _ (hp.below hB)).mono ?_
  rintro e w2 ⟨rfl, hB2⟩
  have b3 := b3.below hB2
  have hB := hB.trans (hB2.mono hB.size)
  clear hB2 Hlo
  cases hL : longS P with
  | true =>
    clear hL
    go_wp2
    go_ret
    exact ⟨rfl, hB⟩
  | false =>
    obtain ⟨h24, h6000⟩ := longS_bd hL
    have H6 := hid h6000
    clear hL h6000
    have hK2 := hKS.below hB
    have XV : Hid (∀ Z, Ch nob w2 Z → Z.rangeAt g3 0 [.int .i64 n, .int .u16 (M : Int)]) := fun Z h => (b3.below h.below).whole
    go_upto_region 5 with (fail)
    have hw2 := hB.size
    refine wp_region_noPanic ?_
    refine wp_region_held_drew (S := Ch nob w2) (by kernel_rfl) ((Ch.refl _ _).drew) (fun hHeld => ?_)
    refine wpAnyH_take (i := 0) (oi := ⟨some 16, _, _, _, _, none⟩) (v := _) rfl (by kernel_rfl) (by kernel_rfl) (by kernel_rfl) (fun _ _ _ h => h) (y_bld (by rfl) 36 [] (by rfl) [] (by rfl) hba) (by assumption) ?_
    try simp only [Act.put, List.setIfInBounds_toArray, List.set_cons_zero, List.set_cons_succ]
    refine wpAnyH_take (i := 2) (oi := ⟨some 18, .load 24 (.tmp 3), _, _, _, none⟩) (v := _) rfl (by kernel_rfl) (by kernel_rfl) (by kernel_rfl) (fun _ _ _ h => h) (yieldsIf_load_mid (by rfl) 24 (.tmp 3) (by rfl) _ (0) (by rfl) _ _ (fun _ hs => XV.out _ hs) Tryd.underlying24 rfl (sizeVw19)) (by assumption) ?_
    try simp only [Act.put, List.setIfInBounds_toArray, List.set_cons_zero, List.set_cons_succ]
    refine wpAnyH_ready (rs := [1]) (by kernel_rfl) (by simp) ?_
    refine AllReadyH.cons (o := ⟨some 17, _, _, _, _, none⟩) rfl (fun K hK => ?_) AllReadyH.nil
    go_simp
    refine (hkf.out _).mono ?_
    rintro e' y1 ⟨uk, rfl, hk, hE1⟩
    have hk0 := hHeld.size
    refine hK.out _ _ (hHeld.belowR hE1) (fun hHeld => ?_)
    clear hK K
    try simp only [Act.put, List.setIfInBounds_toArray, List.set_cons_zero, List.set_cons_succ]
    refine wpAnyH_ready (rs := [3]) (by kernel_rfl) (by simp) ?_
    refine AllReadyH.cons (o := ⟨some 19, _, _, _, _, none⟩) rfl (fun K hK => ?_) AllReadyH.nil
    go_simp
    refine (Hnw.out _ _ (hK2.below hHeld.below) hk).mono ?_
    rintro e' y2 ⟨xv, M0, rfl, hx, hM0, hE2⟩
    have hk1 := hHeld.size
    refine hK.out _ _ (hHeld.belowR hE2) (fun hHeld => ?_)
    clear hK K
    try simp only [Act.put, List.setIfInBounds_toArray, List.set_cons_zero, List.set_cons_succ]
    refine wpAnyH_take (i := 4) (oi := ⟨some 7, _, _, _, _, none⟩) (v := ?_) rfl (by kernel_rfl) (by kernel_rfl) (by kernel_rfl) (fun _ _ _ h => h) (Or.inl ⟨by rfl, ?_⟩) (by assumption) ?_
    rotate_left
    · intro w hSw; go_simp; try with_reducible rfl
    try simp only [Act.put, List.setIfInBounds_toArray, List.set_cons_zero, List.set_cons_succ]
    refine wpAnyH_done (by kernel_rfl) ?_ _
    refine NoPanic.normal ?_
    have hD : Below w2.heap.size w2 y2 := hHeld.below
    have hM0 : ∀ b, M0 b → w2.heap.size ≤ b := fun b h => Nat.le_trans hk1 (hM0 b h)
    obtain ⟨N, hN⟩ : ∃ N : Nat → Prop, N = fun b => w2.drew.heap.size ≤ b ∧ b < y1.heap.size := ⟨_, rfl⟩
    rw [← hN] at hx
    clear hN hHeld hk hE1 hE2 hk0 hk1 Hnw XV b3 hba hkf
    go_wp2
    go_loopw [22] (fun iv wr => ∃ (j : Nat) (M' : Nat → Prop), j ≤ P.length ∧ iv = .int .i64 j ∧ Hid (SX wr xv M' N ks17 ⟨n, M⟩ (T j) ∧ ∀ b, M' b → w2.heap.size ≤ b) ∧ Below w2.heap.size w2 wr) (fun j _ => P.length - (intOf j).toNat)
    case atStart => exact ⟨0, M0, Nat.zero_le _, rfl, hid ⟨by rw [HF0.out]; exact hx, hM0⟩, hD⟩
    case round =>
      clear hx hM0 hD
      obtain ⟨j, M', hj, rfl, Hx, hD⟩ := hrel
      have hBx := hB.trans (hD.mono hw2)
      have hKr := hKS.below hBx
      by_cases hlt : j < P.length
      · have hI : (j : Int) < (P.length : Int) := by omega
        obtain ⟨X, hX⟩ : ∃ X, P[j]? = some X := ⟨_, List.getElem?_eq_getElem hlt⟩
        obtain ⟨gp, offp, u, hAp, _, hcu, hu⟩ := Rd.elem (hp.below hBx) j (bys X) (by rw [List.getElem?_map, hX]; rfl)
        subst hAp
        obtain ⟨Au, cu, rfl⟩ := hu.shape
        have hXl := H6.out X (List.mem_of_getElem? hX)
        have Hn := hid (Hnx.out j X hX)
        have hlt2 := hlt
        clear hX
        go_wp2_with (fail)
        refine (htk.out xv M' N (T j) X _ _ _ hKr Hx.out.1 hu hXl).mono ?_
        rintro e w5 ⟨rfl, M5, hP⟩
        have hD5 := Ch.below_of hD hP.c Hx.out.2 hD.size
        have hM4 := Hx.out.2
        have hM5 : ∀ b, M5 b → w2.heap.size ≤ b := fun b h => by
          rcases hP.m b h with h | h
          · exact hM4 b h
          · have := hD.size; omega
        have hx5 := hP.x
        rw [← Hn.out] at hx5
        clear hP hcu hM4
        go_wp2
        go_roundw
        case rel => exact ⟨j + 1, M5, by omega, by go_num, hid ⟨hx5, hM5⟩, hD5⟩
        case measure => simp [intOf]; omega
      · have hI : ¬ (j : Int) < (P.length : Int) := by omega
        have hx := Hx.out.1
        have hG := hgl.out (T j)
        have hG1 := hg1.out (T j) (enoN n M)
        have hS := hid (fun Y h => hso.out xv M' N (T j) Y h)
        have hE := hid (fun Y h => hen.out xv M' N (T j) Y h)
        have e1 : gW (T j) a (enoN n M) 41 = grW (T j) a (enoN n M) := rfl
        rw [e1] at hG1
        obtain ⟨s, hs⟩ : ∃ s, s = grW (T j) a (somN n M) := ⟨_, rfl⟩
        obtain ⟨q, hq⟩ : ∃ q, q = grW (T j) a (enoN n M) := ⟨_, rfl⟩
        rw [← hs] at hG hS
        rw [← hq] at hG hG1 hE
        clear hs hq e1 hgl hg1 hso hen Hx
        go_wp2_with (fail)
        refine (hS.out _ hx).mono ?_
        rintro e w6 ⟨rfl, hB6⟩
        have hx := hx.below hB6
        have hBx := hBx.trans (hB6.mono hBx.size)
        clear hB6
        go_wp2_with (fail)
        refine (hE.out _ hx).mono ?_
        rintro e w7 ⟨rfl, hB7⟩
        have hBx := hBx.trans (hB7.mono hBx.size)
        clear hB7 hS hE
        obtain ⟨h1, h2, h3⟩ := hG
        by_cases hs1 : s = -1
        · have hq1 : q = -1 := by omega
          subst hs1 hq1
          clear h1 h2 h3 hG1
          go_wp2
          go_ret
          exact ⟨by simp, hBx⟩
        · have hs2 : a < s := h1.resolve_left hs1
          have hsb : (s == -1) = false := beqF19 hs1
          by_cases hq1 : q = -1
          · subst hq1
            clear h1 h2 hG1 hs1
            go_wp2
            go_ret
            exact ⟨by simp, hBx⟩
          · have hq2 : a < q := h2.resolve_left hq1
            have hqb : (q == -1) = false := beqF19 hq1
            clear h1 h2 hG1 hs1 hq1
            go_wp2
            go_ret
            exact ⟨by simp, hBx⟩
set_option maxRecDepth 100000 in
set_option maxHeartbeats 2000000 in
theorem stopsNil_law (X : List UInt8) (r : Int) (u : Value) (F : Nat → Prop) (w : World) (hKS : KS w) (hu : Rd w F u (bys X)) :
    Calls Tryd.prog 4 #[u, .int .i64 r] w fun e w' => e = .returned (.bool true) ∧ Below w.heap.size w w' := by
  obtain ⟨Au, cu, rfl⟩ := hu.shape
  go_enter Tryd.func4, Tryd.ntmps4
  go_wp2_with (fail)
  refine (wakes19_any _ hKS).mono ?_
  rintro e w1 ⟨rfl, hB⟩
  go_wp2_with (fail)
  refine (stake19_nil X _ F _ (hu.below hB)).mono ?_
  rintro e w2 ⟨rfl, hB2⟩
  have hB := hB.trans (hB2.mono hB.size)
  clear hB2
  go_wp2_with (fail)
  refine (scount19_nil r _).mono ?_
  rintro e w3 ⟨rfl, hB3⟩
  have hB := hB.trans (hB3.mono hB.size)
  clear hB3
  go_wp2_with (fail)
  refine (ssome19_nil r _).mono ?_
  rintro e w4 ⟨rfl, hB4⟩
  have hB := hB.trans (hB4.mono hB.size)
  clear hB4
  go_wp2_with (fail)
  refine (senough19_nil r _).mono ?_
  rintro e w5 ⟨rfl, hB5⟩
  have hB := hB.trans (hB5.mono hB.size)
  clear hB5
  go_wp2
  go_ret
  exact ⟨by simp, hB⟩
end Go.Proofs.YtnhhbbjkeekneaaDoor
