/- Cz: layer 17, the document's side: contract of ref17.Decided. -/
import Derived.Test.YthbbpfnfnnmdnaaDoorLW
import Derived.Test.YthbbpfnfnnmdnaaDoorCy
namespace Go.Proofs.YthbbpfnfnnmdnaaDoor
open Go.RowKit Go.V
theorem dec_no {ks : List (List UInt8)} {n : Int} {M : Nat} {s : Int} {h : List UInt8} {P : List (List UInt8)} (hx : ¬ (rgt n M = true ∧ P.length ≤ 16)) : decC ks ⟨n, M⟩ s h P = (0, 12) := by
  unfold decC
  rw [if_neg (fun hy => hx ?_)]
  unfold okC at hy
  rw [Bool.and_eq_true, decide_eq_true_eq] at hy
  exact hy
theorem dec_at {ks : List (List UInt8)} {n : Int} {M : Nat} {s : Int} {h : List UInt8} {P : List (List UInt8)} {r : Nat} (hx : rgt n M = true ∧ P.length ≤ 16) (hr : r ≤ 40) (he : quoN n M ≤ (whoC ks ⟨n, M⟩ ⟨3, n, (r : Int), s, h⟩ P).length) (hn : ∀ k : Nat, k < r → enC ks ⟨n, M⟩ ⟨3, n, (k : Int), s, h⟩ P = false) : decC ks ⟨n, M⟩ s h P = ((r : Int), 0) := by
  have e : leaC ks ⟨n, M⟩ s h P = some r := lea_of (V := ⟨n, M⟩) hr (decide_eq_true he) hn
  unfold decC
  rw [if_pos (by unfold okC; rw [Bool.and_eq_true, decide_eq_true_eq]; exact hx), e]
theorem dec_none {ks : List (List UInt8)} {n : Int} {M : Nat} {s : Int} {h : List UInt8} {P : List (List UInt8)} (hn : ∀ k : Nat, k < 41 → enC ks ⟨n, M⟩ ⟨3, n, (k : Int), s, h⟩ P = false) : decC ks ⟨n, M⟩ s h P = (0, 12) := by
  have e : leaC ks ⟨n, M⟩ s h P = none := by
    unfold leaC
    rw [List.find?_eq_none]
    intro k hk
    have := hn k (List.mem_range.1 hk)
    rw [this]
    decide
  unfold decC
  rw [e]
  split <;> rfl
set_option maxRecDepth 100000 in
set_option maxHeartbeats 8000000 in
theorem rdec17_any (ks : List (List UInt8)) (V : Vc) (P : List (List UInt8)) (s : Int) (h : List UInt8) (uk ur pv : Value) (F H : Nat → Prop) (w : World) (hks : KsSm ks) (hk : Rd w F uk (tx ks)) (hp : Rd w H pv (tx P)) (hP : P.length ≤ 1000) (hPl : ∀ X ∈ P, X.length ≤ 1000000) (hV : V.m < 65536) (hh : h.length = 32) :
    Calls Tryd.prog 15 #[.agg #[uk, ur], vw V.n V.m, .int .i64 s, .agg (bvs h).toArray, pv] w fun e w' => e = .returned (.tuple #[.int .i64 (decC ks V s h P).1, .int .i64 (decC ks V s h P).2]) ∧ Below w.heap.size w w' := by
  obtain ⟨n, M⟩ := V
  dsimp only at hV
  obtain ⟨A, c, rfl, hcA, hcm⟩ := hp.slShape
  have hl32 : (bvs h).length = 32 := by rw [len_bvs]; exact hh
  obtain ⟨W0, hW0, b4, b5, b6, hB⟩ := alloc3 w 33 24 41 [uk, ur] [.int .i64 n, .int .u16 (M : Int)] (bvs h)
  have hk := hk.below hB
  have hp := hp.below hB
  have Hrg := hid (fun Y => (show Calls Tryd.prog 24 #[.agg #[.int .i64 n, .int .u16 (M : Int)]] Y (fun e w' => e = .returned (.bool (rgt n M)) ∧ Below Y.heap.size Y w') from rright_any n M Y hV))
  have Hqu := hid (fun Y => (show Calls Tryd.prog 26 #[.agg #[.int .i64 n, .int .u16 (M : Int)]] Y (fun e w' => e = .returned (.int .i64 (quoN n M : Int)) ∧ Below Y.heap.size Y w') from rquo_any n M Y hV))
  have hwho : ∀ (r : Nat) (Y : World), Rd Y F uk (tx ks) → Rd Y H (.slice A P.length c) (tx P) → Calls Tryd.prog 25 #[.agg #[uk, ur], .agg #[.int .i64 n, .int .u16 (M : Int)], .agg (aL 3 n (r : Int) s h).toArray, .slice A P.length c] Y fun e w' => ∃ v', e = .returned v' ∧ NewI Y w' v' (whoC ks ⟨n, M⟩ ⟨3, n, (r : Int), s, h⟩ P) := fun r Y h1 h2 => rwho17_any ks ⟨n, M⟩ P (aM 3 n (r : Int) s h) uk ur _ _ _ F H Y hks h1 h2 hP hPl hV hh
  have hbl := fun (r : Nat) => bldA17 3 n (r : Int) s h hh
  have Lm := hid (fun (r : Nat) => len_aL 3 n (r : Int) s h hh)
  have Om := hid (fun (r : Nat) => one_aL 3 n (r : Int) s h)
  have Dno : Hid (¬ (rgt n M = true ∧ P.length ≤ 16) → decC ks ⟨n, M⟩ s h P = (0, 12)) := hid dec_no
  have Dat := hid (fun (r : Nat) => dec_at (ks := ks) (n := n) (M := M) (s := s) (h := h) (P := P) (r := r))
  have Dne := hid (dec_none (ks := ks) (n := n) (M := M) (s := s) (h := h) (P := P))
  have Den : Hid (∀ r : Nat, ¬ quoN n M ≤ (whoC ks ⟨n, M⟩ ⟨3, n, (r : Int), s, h⟩ P).length → enC ks ⟨n, M⟩ ⟨3, n, (r : Int), s, h⟩ P = false) := hid (fun r hx => decide_eq_false hx)
  obtain ⟨Z, hZ⟩ : ∃ Z, Z = decC ks ⟨n, M⟩ s h P := ⟨_, rfl⟩
  rw [← hZ] at Dno Dne Dat ⊢
  have hwl := fun r => who_len ks ⟨n, M⟩ ⟨3, n, r, s, h⟩ P
  obtain ⟨L, hL⟩ : ∃ L : Nat → List Nat, L = fun (r : Nat) => whoC ks ⟨n, M⟩ ⟨3, n, (r : Int), s, h⟩ P := ⟨_, rfl⟩
  have hwho : ∀ (r : Nat) (Y : World), Rd Y F uk (tx ks) → Rd Y H (.slice A P.length c) (tx P) → Calls Tryd.prog 25 #[.agg #[uk, ur], .agg #[.int .i64 n, .int .u16 (M : Int)], .agg (aL 3 n (r : Int) s h).toArray, .slice A P.length c] Y fun e w' => ∃ v', e = .returned v' ∧ NewI Y w' v' (L r) := by rw [hL]; exact hwho
  have Dat : Hid (∀ r : Nat, rgt n M = true ∧ P.length ≤ 16 → r ≤ 40 → quoN n M ≤ (L r).length → (∀ k, k < r → enC ks ⟨n, M⟩ ⟨3, n, (k : Int), s, h⟩ P = false) → Z = ((r : Int), 0)) := by rw [hL]; exact Dat
  have Den : Hid (∀ r : Nat, ¬ quoN n M ≤ (L r).length → enC ks ⟨n, M⟩ ⟨3, n, (r : Int), s, h⟩ P = false) := by rw [hL]; exact Den
  have Hwl : Hid (∀ r, (L r).length ≤ 16) := hid (fun r => by rw [hL]; exact hwl _)
  obtain ⟨lm, hlm⟩ : ∃ l : Nat → List Value, l = fun (r : Nat) => aL 3 n (r : Int) s h := ⟨_, rfl⟩
  have Hwho : Hid (∀ (r : Nat) (Y : World), Rd Y F uk (tx ks) → Rd Y H (.slice A P.length c) (tx P) → Calls Tryd.prog 25 #[.agg #[uk, ur], .agg #[.int .i64 n, .int .u16 (M : Int)], .agg (lm r).toArray, .slice A P.length c] Y fun e w' => ∃ v', e = .returned v' ∧ NewI Y w' v' (L r)) := by rw [hlm]; exact hwho
  have Lm : Hid (∀ r, (lm r).length = 39) := by rw [hlm]; exact Lm
  have Om : Hid (∀ r, ∀ v ∈ lm r, v.oneCell' = true) := by rw [hlm]; exact Om
  obtain ⟨ef, hef⟩ : ∃ f : Nat → Bool, f = fun (k : Nat) => enC ks ⟨n, M⟩ ⟨3, n, (k : Int), s, h⟩ P := ⟨_, rfl⟩
  have Dat : Hid (∀ r : Nat, rgt n M = true ∧ P.length ≤ 16 → r ≤ 40 → quoN n M ≤ (L r).length → (∀ k, k < r → ef k = false) → Z = ((r : Int), 0)) := by rw [hef]; exact Dat
  have Den : Hid (∀ r : Nat, ¬ quoN n M ≤ (L r).length → ef r = false) := by rw [hef]; exact Den
  have Dne : Hid ((∀ k : Nat, k < 41 → ef k = false) → Z = (0, 12)) := by rw [hef]; exact Dne
  obtain ⟨lh, hlh⟩ : ∃ l, l = bvs h := ⟨_, rfl⟩
  have hbl : ∀ (r : Nat) (W : World), (Instr.build 59 [(0, .int .i64 3), (2, .int .i64 n), (3, .int .i64 (r : Int)), (4, .int .i64 s), (5, .agg lh.toArray)].toArray).run Tryd.prog W = .ok (.agg (lm r).toArray) W := by rw [hlm, hlh]; exact hbl
  rw [← hlh] at hW0 b6 hl32 ⊢
  have Hl32 := hid hl32
  have Hbl := hid hbl
  clear hZ hL hlm hlh hwho hl32 hP hPl hh hbl hwl hef
  unfold vw
  go_enter Tryd.func15, Tryd.ntmps15
  go_upto_region 1 with (fail)
  first | rw [← hW0] | (simp only [List.toArray] at hW0 ⊢; rw [← hW0])
  clear hW0
  have hs0 := hB.size
  obtain ⟨g6, hg6⟩ : ∃ g, g = w.heap.size + 1 + 1 := ⟨_, rfl⟩
  rw [← hg6] at b6 ⊢
  obtain ⟨g5, hg5⟩ : ∃ g, g = w.heap.size + 1 := ⟨_, rfl⟩
  rw [← hg5] at b5 ⊢
  obtain ⟨g4, hg4⟩ : ∃ g, g = w.heap.size := ⟨_, rfl⟩
  rw [← hg4] at b4 ⊢
  clear hg4 hg5 hg6
  go_wp2_with (refine wp_ld 24 (.tmp 6) rfl rfl rfl b5.whole Tryd.underlying24 rfl sizeVw17 ?_)
  refine (Hrg.out _).mono ?_
  rintro e w1 ⟨rfl, hB1⟩
  have b4 := b4.below hB1
  have b5 := b5.below hB1
  have b6 := b6.below hB1
  have hk := hk.below hB1
  have hp := hp.below hB1
  have hB := hB.trans (hB1.mono hB.size)
  clear hB1 Hrg
  cases hr : rgt n M with
  | false =>
    have Hz := hid (Dno.out (fun hx => by rw [hr] at hx; exact absurd hx.1 (by decide)))
    clear hr Dno Dat Dne Den
    go_wp2
    go_ret2
    exact ⟨by rw [Hz.out]; rfl, hB⟩
  | true =>
    by_cases h16 : P.length ≤ 16
    · have hI : ¬ (16 : Int) < (P.length : Int) := by omega
      have Dat := hid (fun r => Dat.out r ⟨hr, h16⟩)
      clear hr Dno
      have hszw := hB.size
      go_wp2
      go_loopw [12] (fun iv wr => ∃ r : Nat, r ≤ 41 ∧ iv = .int .i64 r ∧ Hid (∀ k, k < r → ef k = false) ∧ Below w1.heap.size w1 wr) (fun i _ => 41 - (intOf i).toNat)
      case atStart => exact ⟨0, by omega, rfl, hid (fun k hk => absurd hk (by omega)), Below.refl _ _⟩
      case round =>
        obtain ⟨r, hr41, rfl, hno, hBr⟩ := hrel
        have b4 := b4.below hBr
        have b5 := b5.below hBr
        have b6 := b6.below hBr
        have hk := hk.below hBr
        have hp := hp.below hBr
        have hBw := hB.trans (hBr.mono hszw)
        by_cases hlt40 : r ≤ 40
        · have hI2 : (r : Int) ≤ 40 := by omega
          have c0 := b5.cellAt 0 _ rfl
          have Hb := hid (Hbl.out r)
          have Lr := hid (Lm.out r)
          have Orr := hid (Om.out r)
          have hwr' := hid (Hwho.out r)
          have hD1 := hid (Dat.out r hlt40)
          have hD2 := hid (Den.out r)
          obtain ⟨lr, hlr⟩ : ∃ l, l = lm r := ⟨_, rfl⟩
          obtain ⟨Lq, hLq⟩ : ∃ l, l = L r := ⟨_, rfl⟩
          rw [← hlr] at Hb Lr Orr hwr'
          rw [← hLq] at hwr' hD1 hD2
          clear hlr hLq
          go_wp2_with (first | refine wp_ld 41 (.tmp 8) rfl rfl rfl b6.whole Tryd.underlying41 rfl (by rw [Hl32.out]; exact size25) ?_ | refine wp_bld 59 [(0, .const (.int .i64 3)), (2, .tmp 27), (3, .tmp 28), (4, .tmp 29), (5, .tmp 30)] rfl rfl [(0, .int .i64 3), (2, .int .i64 n), (3, .int .i64 (r : Int)), (4, .int .i64 s), (5, .agg lh.toArray)] rfl Hb.out ?_ | (refine wp_newst 59 13 (.tmp 31) rfl rfl rfl rfl rfl rfl zeroM (l := lr) rfl (by rw [Lr.out]; rfl) (by rw [Lr.out]; exact sizeM) Orr.out (by simp [Act.put]) ?_; intro w2 b13 hB2 hs2; refine wp_stop ?_))
          have b4 := b4.below hB2
          have b5 := b5.below hB2
          have hk := hk.below hB2
          have hp := hp.below hB2
          have hBr := hBr.trans (hB2.mono hBr.size)
          have hBw := hBw.trans (hB2.mono hBw.size)
          obtain ⟨g13, hg13⟩ : ∃ g, g = wr.heap.size := ⟨_, rfl⟩
          rw [← hg13] at b13 ⊢
          clear hg13 hB2 hs2 c0
          refine wp_go ?_
          have X4 : Hid (∀ Z, Ch nob w2 Z → Z.rangeAt g4 0 [uk, ur]) := fun Z h => (b4.below h.below).whole
          have X5 : Hid (∀ Z, Ch nob w2 Z → Z.rangeAt g5 0 [.int .i64 n, .int .u16 (M : Int)]) := fun Z h => (b5.below h.below).whole
          have X6 : Hid (∀ Z, Ch nob w2 Z → Z.rangeAt g13 0 lr) := fun Z h => (b13.below h.below).whole
          have Hc := hid (fun Y h => hwr'.out Y (hk.below h) (hp.below h))
          go_upto_region 7 with (fail)
          by_cases hq : quoN n M ≤ Lq.length
          · have hlt : (quoN n M : Int) ≤ (Lq.length : Int) := by omega
            have Hz := hid (hD1.out hq hno.out)
            clear hq hD1 hD2 Dat Dne Den
            refine wp_region_noPanic ?_
            refine wp_region_held_drew (S := Ch nob w2) (by kernel_rfl) ((Ch.refl _ _).drew) (fun hHeld => ?_)
            refine tkY 0 rfl (yieldsIf_load_mid (by rfl) 33 (.tmp 5) (by rfl) _ (0) (by rfl) _ _ (fun _ hs => X4.out _ hs) Tryd.underlying33 rfl (sizeKs17)) ?_
            refine tkY 1 rfl (yieldsIf_load_mid (by rfl) 24 (.tmp 6) (by rfl) _ (0) (by rfl) _ _ (fun _ hs => X5.out _ hs) Tryd.underlying24 rfl (sizeVw17)) ?_
            refine tkY 2 rfl (yieldsIf_load_mid (by rfl) 59 (.tmp 13) (by rfl) _ (0) (by rfl) _ _ (fun _ hs => X6.out _ hs) Tryd.underlying59 rfl (by rw [Lr.out]; exact sizeM)) ?_
            refine tkP 3 rfl ?_
            refine tkY 6 rfl (yieldsIf_load_mid (by rfl) 24 (.tmp 6) (by rfl) _ (0) (by rfl) _ _ (fun _ hs => X5.out _ hs) Tryd.underlying24 rfl (sizeVw17)) ?_
            refine rdH 4 rfl (fun K hK => ?_)
            go_simp
            refine (Hc.out _ hHeld.below).mono ?_
            rintro e' w7 ⟨v7, rfl, ho7, hB7⟩
            obtain ⟨A7, c7, rfl⟩ := own_shape ho7
            refine hK.out _ _ (hHeld.belowR hB7) (fun hHeld => ?_)
            clear hK K
            try simp only [nP]
            refine tkP 5 rfl ?_
            refine rdH 7 rfl (fun K hK => ?_)
            go_simp
            refine (Hqu.out _).mono ?_
            rintro e' w8 ⟨rfl, hB8⟩
            refine hK.out _ _ (hHeld.belowR hB8) (fun hHeld => ?_)
            clear hK K
            try simp only [nP]
            refine tkP 8 rfl ?_
            refine wpAnyH_done (by kernel_rfl) ?_ _
            refine NoPanic.normal ?_
            go_wp2
            go_ret2
            exact ⟨by rw [Hz.out]; rfl, Ch.below_of hBw hHeld (fun k hk => hk.elim) hBw.size⟩
          · have hlt : ¬ (quoN n M : Int) ≤ (Lq.length : Int) := by omega
            have Hno2 : Hid (∀ k, k < r + 1 → ef k = false) := hid (fun k hk => by
              rcases Nat.lt_or_ge k r with h | h
              · exact hno.out k h
              · rw [show k = r from by omega]; exact hD2.out hq)
            clear hq hD1 hD2 hno
            refine wp_region_noPanic ?_
            refine wp_region_held_drew (S := Ch nob w2) (by kernel_rfl) ((Ch.refl _ _).drew) (fun hHeld => ?_)
            refine tkY 0 rfl (yieldsIf_load_mid (by rfl) 33 (.tmp 5) (by rfl) _ (0) (by rfl) _ _ (fun _ hs => X4.out _ hs) Tryd.underlying33 rfl (sizeKs17)) ?_
            refine tkY 1 rfl (yieldsIf_load_mid (by rfl) 24 (.tmp 6) (by rfl) _ (0) (by rfl) _ _ (fun _ hs => X5.out _ hs) Tryd.underlying24 rfl (sizeVw17)) ?_
            refine tkY 2 rfl (yieldsIf_load_mid (by rfl) 59 (.tmp 13) (by rfl) _ (0) (by rfl) _ _ (fun _ hs => X6.out _ hs) Tryd.underlying59 rfl (by rw [Lr.out]; exact sizeM)) ?_
            refine tkP 3 rfl ?_
            refine tkY 6 rfl (yieldsIf_load_mid (by rfl) 24 (.tmp 6) (by rfl) _ (0) (by rfl) _ _ (fun _ hs => X5.out _ hs) Tryd.underlying24 rfl (sizeVw17)) ?_
            refine rdH 4 rfl (fun K hK => ?_)
            go_simp
            refine (Hc.out _ hHeld.below).mono ?_
            rintro e' w7 ⟨v7, rfl, ho7, hB7⟩
            obtain ⟨A7, c7, rfl⟩ := own_shape ho7
            refine hK.out _ _ (hHeld.belowR hB7) (fun hHeld => ?_)
            clear hK K
            try simp only [nP]
            refine tkP 5 rfl ?_
            refine rdH 7 rfl (fun K hK => ?_)
            go_simp
            refine (Hqu.out _).mono ?_
            rintro e' w8 ⟨rfl, hB8⟩
            refine hK.out _ _ (hHeld.belowR hB8) (fun hHeld => ?_)
            clear hK K
            try simp only [nP]
            refine tkP 8 rfl ?_
            refine wpAnyH_done (by kernel_rfl) ?_ _
            refine NoPanic.normal ?_
            go_wp2
            go_roundw
            case rel => exact ⟨r + 1, by omega, by go_num, Hno2, Ch.below_of hBr hHeld (fun k hk => hk.elim) hBr.size⟩
            case measure => simp [intOf]; omega
        · have hr' : r = 41 := by omega
          subst hr'
          have hI2 : ¬ (41 : Int) ≤ 40 := by omega
          have Hz := hid (Dne.out hno.out)
          clear Dat Dne Den hno
          go_wp2
          go_ret2
          exact ⟨by rw [Hz.out]; rfl, hBw⟩
    · have hI : (16 : Int) < (P.length : Int) := by omega
      have Hz := hid (Dno.out (fun hx => h16 hx.2))
      clear hr Dno Dat Dne Den h16
      go_wp2
      go_ret2
      exact ⟨by rw [Hz.out]; rfl, hB⟩
end Go.Proofs.YthbbpfnfnnmdnaaDoor
