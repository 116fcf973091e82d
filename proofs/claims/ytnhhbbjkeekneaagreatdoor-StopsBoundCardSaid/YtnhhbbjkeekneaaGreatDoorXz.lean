/- Xz: layer 19: contract of stops.Choose. -/
import Derived.Test.YtnhhbbjkeekneaaGreatDoorXy
import Derived.Test.YtnhhbbjkeekneaaGreatDoorZx
namespace Go.Proofs.YtnhhbbjkeekneaaGreatDoor
open Go.RowKit Go.V
/-- what OpenOf tells: a message that can be read, whatever the error -/
def OpQ (w : World) (r : Except Nat Mg) (e : Ending) (w' : World) : Prop := ∃ (x : Mg) (ub up : Value) (k : Nat), e = .returned (.tuple #[.agg (x.l ub up).toArray, .int .i64 (k : Int)]) ∧ x.h.length = 32 ∧ Rd w' (fun b => w.heap.size ≤ b) ub (bys x.b) ∧ Rd w' (fun b => w.heap.size ≤ b) up (tx x.ps) ∧ (k = 0 → r = .ok x) ∧ (k ≠ 0 → r = .error k) ∧ Below w.heap.size w w'
theorem opQ {ks : List (List UInt8)} {V : Vc} {X : List UInt8} {w w' : World} {e : Ending} (h : ReadP w (opOf ks V X) e w') : OpQ w (opOf ks V X) e w' := by
  cases hr : opOf ks V X with
  | error k =>
    rw [hr] at h
    obtain ⟨rfl, hB⟩ := h
    have hk := opofN_pos hr
    refine ⟨zMg18, .slice none 0 0, .slice none 0 0, k, by rw [zM_eq18], by simp [zMg18], Rd.nil _ _, ?_, fun h => absurd h hk, fun _ => rfl, hB⟩
    unfold zMg18 tx Rd
    exact ⟨none, 0, rfl, Nat.le_refl _, by simp [maxLen], fun _ => rfl, fun h => absurd rfl h⟩
  | ok m =>
    rw [hr] at h
    obtain ⟨⟨ub, up, rfl, hub, hup⟩, hB⟩ := h
    exact ⟨m, ub, up, 0, rfl, (opofN_ok hr).1, hub, hup, fun _ => rfl, fun h => absurd rfl h, hB⟩
theorem fol_len (a : List To) : (folC a).d.length = 32 := by
  unfold folC
  split
  · rfl
  · split
    · rfl
    · split
      · rfl
      · rename_i s _
        exact s.hh
set_option maxRecDepth 100000 in
set_option maxHeartbeats 16000000 in
theorem cchoose19_any (ks : List (List UInt8)) (R : List Hx) (V : Vc) (first reg : Int) (P : List (List UInt8)) (uk ur pv : Value) (F FR H : Nat → Prop) (w : World) (hKS : KS w) (hks : KsSm ks) (hk : Rd w F uk (tx ks)) (hR : Rd w FR ur (wds hxD R)) (hV : in64w V.n ∧ V.m < 65536)
    (hp : Rd w H pv (tx P)) (hP : P.length ≤ 1000) (hPl : ∀ X ∈ P, X.length ≤ 1000000) (_hreg : in64w reg) (hfi : -1000000000000 ≤ first ∧ first ≤ 1000000000000) :
    Calls Tryz.prog 7 #[.agg #[uk, ur], vw V.n V.m, .int .i64 first, .int .i64 reg, pv] w (ChQ w (choC ks R V first reg P)) := by
  have hT : choC ks R V first reg P = if enoN V.n V.m = 0 ∨ P.length < enoN V.n V.m ∨ 16 < P.length then (zCi, 12)
      else match tkC ks R V first reg [] P with
        | .error e => (zCi, e)
        | .ok l => (folC l, 0) := rfl
  obtain ⟨T, hTT⟩ : ∃ T, T = choC ks R V first reg P := ⟨_, rfl⟩
  rw [← hTT] at hT ⊢
  clear hTT
  obtain ⟨n, M⟩ := V
  have hvb := hV.2
  dsimp only at hT hvb ⊢
  obtain ⟨A, c, rfl, hcA, hcm⟩ := hp.slShape
  obtain ⟨W1, hW1, b5, b6, hB1⟩ := alloc2 w 40 24 [uk, ur] [.int .i64 n, .int .u16 (M : Int)]
  have b10 := Blk.new' W1 35 (ciL zCi (.slice none 0 0))
  have hB6 : Below W1.heap.size W1 (W1.alloc (.cells (ciL zCi (.slice none 0 0)).toArray 35)) := (Below.refl _ _).alloc (Nat.le_refl _) _
  have hs1 : W1.heap.size = w.heap.size + 1 + 1 := by rw [hW1]; simp
  have b5 := b5.below hB6
  have b6 := b6.below hB6
  have hB := hB1.trans (hB6.mono hB1.size)
  have hri := hid (fun Y => right_any n M Y hvb)
  have hen := hid (fun Y => eno_any n M Y hvb)
  have hep := hid (eno_pos n M)
  have hel := hid (eno_le n M)
  unfold vw at hri hen
  have hp := hp.weak (F' := fun b => b < w.heap.size) (fun b hb _ => hb)
  have hk := hk.weak (F' := fun b => b < w.heap.size) (fun b hb _ => hb)
  have hR := hR.weak (F' := fun b => b < w.heap.size) (fun b hb _ => hb)
  have hkl := hKS.lt
  obtain ⟨N, hN⟩ : ∃ N, N = enoN n M := ⟨_, rfl⟩
  rw [← hN] at hen hep hel hT
  obtain ⟨q, hq⟩ : ∃ q, q = rgt n M := ⟨_, rfl⟩
  rw [← hq] at hri hep hel
  have Hop0 := hid (fun X u (G : Nat → Prop) Y h0 h1 h2 h3 => (openof9_any ks ⟨n, M⟩ X uk ur u (fun b => b < w.heap.size) G Y h0 hks h1 h2 h3 hvb).mono (fun e w' h => opQ h))
  have Hva0 := hid (fun (m : Mg) ub up (G1 G2 : Nat → Prop) Y h0 h1 h2 h3 h4 h5 h6 h7 h8 h9 => cvalid19_new ks R ⟨n, M⟩ first m uk ur ub up (fun b => b < w.heap.size) (fun b => b < w.heap.size) G1 G2 Y h0 hks h1 h2 hV h3 h4 h5 h6 h7 h8 h9 hfi)
  unfold vw at Hop0 Hva0
  unfold OpQ at Hop0
  unfold VaP at Hva0
  have HPl := hid hPl
  have Htt := hid hT
  clear hT hN hq hPl hB1 hB6
  unfold vw
  go_enter Tryz.func7, Tryz.ntmps7
  go_wp2_with (first | (refine wp_new 35 rfl rfl zeroCi ?_; refine wp_stop ?_))
  rw [hs1] at b10
  obtain ⟨w0, hw0⟩ : ∃ x, x = W1.alloc (.cells (ciL zCi (.slice none 0 0)).toArray 35) := ⟨_, rfl⟩
  rw [← hw0] at b5 b6 b10 hB
  rw [hW1] at hw0
  first | rw [← hw0] | (simp only [List.toArray] at hw0 ⊢; rw [← hw0])
  obtain ⟨g10, hg10⟩ : ∃ g, g = w.heap.size + 1 + 1 := ⟨_, rfl⟩
  rw [← hg10] at b10 ⊢
  obtain ⟨g6, hg6⟩ : ∃ g, g = w.heap.size + 1 := ⟨_, rfl⟩
  rw [← hg6] at b6 ⊢
  obtain ⟨g5, hg5⟩ : ∃ g, g = w.heap.size := ⟨_, rfl⟩
  rw [← hg5] at b5 ⊢
  have hw10 : w.heap.size ≤ g10 := by omega
  clear hg5 hg6 hg10 hw0 hW1 hs1
  have K5 : Hid (∀ Z, Below w0.heap.size w0 Z → Blk Z g5 40 [uk, ur]) := hid (fun Z h => b5.below h)
  have K6 : Hid (∀ Z, Below w0.heap.size w0 Z → Blk Z g6 24 [.int .i64 n, .int .u16 (M : Int)]) := hid (fun Z h => b6.below h)
  have K10 : Hid (∀ Z, Below w0.heap.size w0 Z → Blk Z g10 35 (ciL zCi (.slice none 0 0))) := hid (fun Z h => b10.below h)
  have h5l := b5.lt
  have h6l := b6.lt
  have h10l := b10.lt
  clear b5 b10
  refine wp_go ?_
  go_wp2_with (refine wp_ld 24 (.tmp 6) rfl rfl rfl b6.whole Tryz.underlying24 rfl sizeVw17 ?_)
  refine (hri.out _).mono ?_
  rintro e wa ⟨rfl, hD⟩
  clear hri b6
  cases q with
  | false =>
    have hN0 := hel.out.2 rfl
    clear hep hel hen
    have Ht : Hid (T = (zCi, 12)) := hid (Htt.out.trans (if_pos (.inl hN0)))
    have b10 := K10.out _ hD
    have hBz : Below w.heap.size w _ := hB.trans (hD.mono hB.size)
    go_wp2_with (first | refine wp_bld 35 [] rfl rfl [] rfl bldC0 ?_ | (refine wp_st 35 (.tmp 10) (.tmp 34) rfl rfl rfl (f := 0) rfl (l := ciL zCi (.slice none 0 0)) rfl b10 (by exact Nat.le_refl _) sizeCi one_ci ?_; intro w9 hd9 hG9; refine wp_stop ?_))
    rw [set_all (ciL zCi (.slice none 0 0)) (ciL zCi (.slice none 0 0)) rfl] at hd9
    refine wp_go ?_
    go_wp2
    refine ret_cell1 rfl rfl rfl hd9.whole Tryz.underlying35 rfl sizeCi rfl ?_
    exact ChQ.err Ht.out (hBz.grown hG9 hBz.size (by intro k hk; injection hk with hk; omega))
  | true =>
    have hNp := hep.out rfl
    have b6 := K6.out _ hD
    clear hep hel
    go_wp2_with (refine wp_ldg 24 (.tmp 6) (by rfl) rfl rfl b6.whole Tryz.underlying24 rfl sizeVw17 ?_)
    refine (hen.out _).mono ?_
    rintro e wb ⟨rfl, hD2⟩
    have hD := hD.trans (hD2.mono hD.size)
    clear hD2 b6 hen
    by_cases d2 : P.length < N
    · have i2 : (P.length : Int) < (N : Int) := by omega
      have Ht : Hid (T = (zCi, 12)) := hid (Htt.out.trans (if_pos (.inr (.inl d2))))
      have b10 := K10.out _ hD
      have hBz : Below w.heap.size w _ := hB.trans (hD.mono hB.size)
      go_wp2_with (first | refine wp_bld 35 [] rfl rfl [] rfl bldC0 ?_ | (refine wp_st 35 (.tmp 10) (.tmp 34) rfl rfl rfl (f := 0) rfl (l := ciL zCi (.slice none 0 0)) rfl b10 (by exact Nat.le_refl _) sizeCi one_ci ?_; intro w9 hd9 hG9; refine wp_stop ?_))
      rw [set_all (ciL zCi (.slice none 0 0)) (ciL zCi (.slice none 0 0)) rfl] at hd9
      refine wp_go ?_
      go_wp2
      refine ret_cell1 rfl rfl rfl hd9.whole Tryz.underlying35 rfl sizeCi rfl ?_
      exact ChQ.err Ht.out (hBz.grown hG9 hBz.size (by intro k hk; injection hk with hk; omega))
    have i2 : ¬ (P.length : Int) < (N : Int) := by omega
    by_cases d3 : 16 < P.length
    · have i3 : (P.length : Int) > 16 := by omega
      have Ht : Hid (T = (zCi, 12)) := hid (Htt.out.trans (if_pos (.inr (.inr d3))))
      have b10 := K10.out _ hD
      have hBz : Below w.heap.size w _ := hB.trans (hD.mono hB.size)
      go_wp2_with (first | refine wp_bld 35 [] rfl rfl [] rfl bldC0 ?_ | (refine wp_st 35 (.tmp 10) (.tmp 34) rfl rfl rfl (f := 0) rfl (l := ciL zCi (.slice none 0 0)) rfl b10 (by exact Nat.le_refl _) sizeCi one_ci ?_; intro w9 hd9 hG9; refine wp_stop ?_))
      rw [set_all (ciL zCi (.slice none 0 0)) (ciL zCi (.slice none 0 0)) rfl] at hd9
      refine wp_go ?_
      go_wp2
      refine ret_cell1 rfl rfl rfl hd9.whole Tryz.underlying35 rfl sizeCi rfl ?_
      exact ChQ.err Ht.out (hBz.grown hG9 hBz.size (by intro k hk; injection hk with hk; omega))
    have i3 : ¬ (P.length : Int) > 16 := by omega
    have Htt := hid (Htt.out.trans (if_neg (by omega)))
    have hPne : 0 < P.length := by omega
    go_wp2_with (first | (refine wp_new 62 rfl rfl zero16B ?_; refine wp_stop ?_))
    have b13 := Blk.new' wb 62 zBs
    have hB3 : Below wb.heap.size wb (wb.alloc (.cells zBs.toArray 62)) := (Below.refl _ _).alloc (Nat.le_refl _) _
    obtain ⟨w1, hw1⟩ : ∃ x, x = wb.alloc (.cells zBs.toArray 62) := ⟨_, rfl⟩
    rw [← hw1] at b13 hB3 ⊢
    have hDs := hD.size
    have hD := hD.trans (hB3.mono hD.size)
    obtain ⟨g13, hg13⟩ : ∃ g, g = wb.heap.size := ⟨_, rfl⟩
    rw [← hg13] at b13 ⊢
    have hBw := hB.trans (hD.mono hB.size)
    have hw0s := hB.size
    have h13 : w0.heap.size ≤ g13 := by omega
    have h13l := b13.lt
    have hw13 : w.heap.size ≤ g13 := by omega
    have K5 : Hid (∀ Z, Ch (only g13) w1 Z → Blk Z g5 40 [uk, ur]) := hid (fun Z h => (K5.out w1 hD).ch h (fun (h : g5 = g13) => by omega))
    have K6 : Hid (∀ Z, Ch (only g13) w1 Z → Blk Z g6 24 [.int .i64 n, .int .u16 (M : Int)]) := hid (fun Z h => (K6.out w1 hD).ch h (fun (h : g6 = g13) => by omega))
    have K10 : Hid (∀ Z, Ch (only g13) w1 Z → Blk Z g10 35 (ciL zCi (.slice none 0 0))) := hid (fun Z h => (K10.out w1 hD).ch h (fun (h : g10 = g13) => by omega))
    have hKS1 := hKS.below hBw
    have HKS : Hid (∀ Z, Ch (only g13) w1 Z → KS Z) := hid (fun Z h => hKS1.keep (h.block _ hKS1.lt (fun h => by have h : (0 : Nat) = g13 := h; omega)))
    have HRk : Hid (∀ Z, Ch (only g13) w1 Z → Rd Z (fun b => b < w.heap.size) uk (tx ks)) := hid (fun Z h => (hk.below hBw).ch h (fun b hb (h : b = g13) => by omega))
    have HRr : Hid (∀ Z, Ch (only g13) w1 Z → Rd Z (fun b => b < w.heap.size) ur (wds hxD R)) := hid (fun Z h => (hR.below hBw).ch h (fun b hb (h : b = g13) => by omega))
    have HRp : Hid (∀ Z, Ch (only g13) w1 Z → Rd Z (fun b => b < w.heap.size) (.slice A P.length c) (tx P)) := hid (fun Z h => (hp.below hBw).ch h (fun b hb (h : b = g13) => by omega))
    have HBz : Hid (∀ Z, Ch (only g13) w1 Z → Below w.heap.size w Z) := hid (fun Z h => Ch.below_of hBw h (fun k (hk : k = g13) => by omega) hBw.size)
    have hBs0 := BsX.zero w1 (fun b => w1.heap.size ≤ b)
    obtain ⟨TK, hTK⟩ : ∃ f, f = tkC ks R ⟨n, M⟩ first reg := ⟨_, rfl⟩
    have Htk := hid hTK
    have htt := Htt.out
    rw [← hTK] at htt
    have Htt := hid htt
    clear htt hTK hw1 hg13 hKS hKS1 hk hR hp hB3 hDs hD hB hBw hw0s d2 d3 i2 i3
    refine wp_go ?_
    go_wp2
    go_loopw [12, 37] (fun sv iv wr => ∃ (i S : Nat) (a : List To) (cs : List Value), i ≤ P.length ∧ a.length = i ∧ iv = .int .i64 (i : Int) ∧ sv = .int .u16 (S : Int) ∧ Hid (TK [] P = TK a (P.drop i)) ∧ Hid (SetW S (fun j => a.any (fun t => decide (t.f = (j : Int)))) ∧ TosIn a ∧ BsX wr (fun b => w1.heap.size ≤ b) cs (bdF a) ∧ Blk wr g13 62 cs) ∧ Ch (only g13) w1 wr) (fun _ iv _ => P.length - (intOf iv).toNat)
    case atStart => exact ⟨0, 0, [], zBs, Nat.zero_le _, rfl, rfl, rfl, hid (by rw [List.drop_zero]), hid ⟨SetW.zero.congr (fun i _ => rfl), tos_nil, hBs0, b13⟩, Ch.refl _ _⟩
    case round =>
      clear b13 hBs0
      obtain ⟨i, S, a, cs, hi, hai, rfl, rfl, HTK, HI, hCh⟩ := hrel
      have hszr := hCh.size
      by_cases hlt : i < P.length
      · have hI : (i : Int) < (P.length : Int) := by omega
        obtain ⟨X, hX⟩ : ∃ X, P[i]? = some X := ⟨_, List.getElem?_eq_getElem hlt⟩
        have hXl := HPl.out X (List.mem_of_getElem? hX)
        obtain ⟨gp, offp, u, hAp, _, hcu, hu⟩ := Rd.elem (HRp.out _ hCh) i (bys X) (by rw [List.getElem?_map, hX]; rfl)
        have hdr : P.drop i = X :: P.drop (i + 1) := by
          rw [List.drop_eq_getElem_cons hlt]
          congr 1
          have := List.getElem?_eq_getElem hlt
          rw [hX] at this
          injection this with this
          exact this.symm
        have HTX : Hid (TK [] P = TK a (X :: P.drop (i + 1))) := hid (by rw [← hdr]; exact HTK.out)
        subst hAp
        obtain ⟨Au, cu, rfl⟩ := hu.shape
        have b5 := K5.out _ hCh
        have b6 := K6.out _ hCh
        clear hX hdr HTK
        go_wp2_with (first | refine wp_ld 40 (.tmp 5) rfl rfl rfl b5.whole Tryz.underlying40 rfl sizeKs17 ?_ | refine wp_ld 24 (.tmp 6) rfl rfl rfl b6.whole Tryz.underlying24 rfl sizeVw17 ?_)
        refine (Hop0.out X _ _ _ (HKS.out _ hCh) (HRk.out _ hCh) hu hXl).mono ?_
        rintro e w2 ⟨x, ub, up, k, rfl, hxh, hub, hup, h0, h1, hB2⟩
        obtain ⟨Ab, cb, rfl⟩ := hub.shape
        obtain ⟨Ap, cp, rfl, _, _⟩ := hup.slShape
        have hC2 := hCh.belowR hB2
        have HI2 : Hid (SetW S (fun j => a.any (fun t => decide (t.f = (j : Int)))) ∧ TosIn a ∧ BsX w2 (fun b => w1.heap.size ≤ b) cs (bdF a) ∧ Blk w2 g13 62 cs) := hid ⟨HI.out.1, HI.out.2.1, HI.out.2.2.1.below hB2, HI.out.2.2.2.below hB2⟩
        have hub := hub.weak (F' := fun b => w1.heap.size ≤ b) (fun b _ h => Nat.le_trans hszr h)
        have hup := hup.weak (F' := fun b => w1.heap.size ≤ b) (fun b _ h => Nat.le_trans hszr h)
        have Hl39 := hid (len_mg hxh (.slice Ab x.b.length cb) (.slice Ap x.ps.length cp))
        have Hlo := hid (one_mg (m := x) (A := Ab) (B := Ap) (n := x.b.length) (c := cb) (k := x.ps.length) (d := cp))
        have HM := hid (mf_of hxh (.slice Ab x.b.length cb) (.slice Ap x.ps.length cp))
        have Hva := hid (fun Y (h : Ch (only g13) w1 Y) h3 h4 h5 h6 h7 h8 h9 => Hva0.out x (.slice Ab x.b.length cb) (.slice Ap x.ps.length cp) (fun b => w1.heap.size ≤ b) (fun b => w1.heap.size ≤ b) Y (HKS.out Y h) (HRk.out Y h) (HRr.out Y h) h3 h4 h5 h6 h7 h8 h9)
        obtain ⟨lx, hlx⟩ : ∃ l, l = x.l (.slice Ab x.b.length cb) (.slice Ap x.ps.length cp) := ⟨_, rfl⟩
        rw [← hlx] at Hl39 Hlo HM Hva ⊢
        clear hlx hu hcu hB2 b5 b6 HI hCh hszr
        go_wp2_with (first | (refine wp_newst 47 16 (.tmp 46) rfl rfl rfl rfl rfl rfl zeroM (l := lx) rfl (by rw [Hl39.out]; exact len_zM) (by rw [Hl39.out]; exact sizeM) Hlo.out (by simp) ?_; intro w3 b16 hB3 hs3; refine wp_stop ?_))
        have hCh := hC2.belowR hB3
        have HI : Hid (SetW S (fun j => a.any (fun t => decide (t.f = (j : Int)))) ∧ TosIn a ∧ BsX w3 (fun b => w1.heap.size ≤ b) cs (bdF a) ∧ Blk w3 g13 62 cs) := hid ⟨HI2.out.1, HI2.out.2.1, HI2.out.2.2.1.below hB3, HI2.out.2.2.2.below hB3⟩
        have hub := hub.below hB3
        have hup := hup.below hB3
        have hw2 := hC2.size
        obtain ⟨g16, hg16⟩ : ∃ g, g = w2.heap.size := ⟨_, rfl⟩
        rw [← hg16] at b16 ⊢
        have h1613 : g16 ≠ g13 := by omega
        clear hs3 hB3 hg16 HI2 hC2 hw2
        refine wp_go ?_
        by_cases hk0 : k ≠ 0
        · have ek : ((k : Int) != 0) = true := neNN (by omega)
          have Hte : Hid (TK [] P = .error (k : Int)) := hid (HTX.out.trans (by rw [Htk.out]; exact tk_err (h1 hk0)))
          have Ht : Hid (T = (zCi, (k : Int))) := hid (by have h := Htt.out; rw [Hte.out] at h; exact h)
          have b10 := K10.out _ hCh
          have hBz : Below w.heap.size w _ := HBz.out _ hCh
          go_wp2_with (first | refine wp_bld 35 [] rfl rfl [] rfl bldC0 ?_ | (refine wp_st 35 (.tmp 10) (.tmp 51) rfl rfl rfl (f := 0) rfl (l := ciL zCi (.slice none 0 0)) rfl b10 (by exact Nat.le_refl _) sizeCi one_ci ?_; intro w9 hd9 hG9; refine wp_stop ?_))
          rw [set_all (ciL zCi (.slice none 0 0)) (ciL zCi (.slice none 0 0)) rfl] at hd9
          refine wp_go ?_
          go_wp2
          refine ret_cell1 rfl rfl rfl hd9.whole Tryz.underlying35 rfl sizeCi rfl ?_
          exact ChQ.err Ht.out (hBz.grown hG9 hBz.size (by intro k hk; injection hk with hk; omega))
        have hk0 : k = 0 := by omega
        subst hk0
        have hox := h0 rfl
        have Hin := hid (op_in (opof_op hox))
        have Hbd := hid (op_bd (opof_op hox))
        have Hok := hid (opofN_ok hox)
        have Hox := hid hox
        have m0 := b16.cellAt 0 _ HM.out.c0
        have m1 := b16.cellAt 1 _ HM.out.c1
        have m3 := b16.cellAt 3 _ HM.out.c3
        clear h0 h1 hox
        by_cases c5 : x.k = 5
        · have e5 : (x.k != 5) = false := neNI c5
          by_cases cr : x.r = reg
          · have er : (x.r != reg) = false := neNI cr
            have Hn0 : Hid (¬ (x.k ≠ 5 ∨ x.r ≠ reg)) := hid (fun h => h.elim (fun h => h c5) (fun h => h cr))
            obtain ⟨f, hf⟩ := Int.eq_ofNat_of_zero_le Hok.out.2.1
            have hf16 : f < 16 := by have := Hok.out.2.2.1; omega
            have hSl := HI.out.1.1
            have hSf := HI.out.1.2 f hf16
            have Hany : Hid (mbit S f = a.any (fun t => decide (t.f = x.f))) := hid (by rw [hf]; exact hSf)
            rw [hf] at m1
            have Hf := hid hf
            clear c5 cr hf hSf
            go_wp2_with (fail)
            refine (isin19_any S f _ hSl hf16).mono ?_
            rintro e w4 ⟨rfl, hB4⟩
            have b16 := b16.below hB4
            have hCh := hCh.belowR hB4
            have HI2 : Hid (SetW S (fun j => a.any (fun t => decide (t.f = (j : Int)))) ∧ TosIn a ∧ BsX w4 (fun b => w1.heap.size ≤ b) cs (bdF a) ∧ Blk w4 g13 62 cs) := hid ⟨HI.out.1, HI.out.2.1, HI.out.2.2.1.below hB4, HI.out.2.2.2.below hB4⟩
            have hub := hub.below hB4
            have hup := hup.below hB4
            clear hB4 HI m0 m1 m3 e5 er
            obtain ⟨bt, hbt⟩ : ∃ b, b = mbit S f := ⟨_, rfl⟩
            rw [← hbt] at Hany ⊢
            have Hbt := hid hbt
            clear hbt
            cases bt with
            | true =>
              have Hte : Hid (TK [] P = .error 7) := hid (HTX.out.trans (by rw [Htk.out]; exact tk_old Hox.out Hn0.out Hany.out.symm))
              have Ht : Hid (T = (zCi, 7)) := hid (by have h := Htt.out; rw [Hte.out] at h; exact h)
              have b10 := K10.out _ hCh
              have hBz : Below w.heap.size w _ := HBz.out _ hCh
              go_wp2_with (first | refine wp_bld 35 [] rfl rfl [] rfl bldC0 ?_ | (refine wp_st 35 (.tmp 10) (.tmp 69) rfl rfl rfl (f := 0) rfl (l := ciL zCi (.slice none 0 0)) rfl b10 (by exact Nat.le_refl _) sizeCi one_ci ?_; intro w9 hd9 hG9; refine wp_stop ?_))
              rw [set_all (ciL zCi (.slice none 0 0)) (ciL zCi (.slice none 0 0)) rfl] at hd9
              refine wp_go ?_
              go_wp2
              refine ret_cell1 rfl rfl rfl hd9.whole Tryz.underlying35 rfl sizeCi rfl ?_
              exact ChQ.err Ht.out (hBz.grown hG9 hBz.size (by intro k hk; injection hk with hk; omega))
            | false =>
              have Hnany : Hid (¬ a.any (fun t => decide (t.f = x.f)) = true) := hid (by rw [← Hany.out]; exact Bool.false_ne_true)
              have b5 := K5.out _ hCh
              have b6 := K6.out _ hCh
              clear Hany
              go_wp2_with (first | refine wp_ld 40 (.tmp 5) rfl rfl rfl b5.whole Tryz.underlying40 rfl sizeKs17 ?_ | refine wp_ld 24 (.tmp 6) rfl rfl rfl b6.whole Tryz.underlying24 rfl sizeVw17 ?_ | refine wp_ld 47 (.tmp 16) rfl rfl rfl b16.whole Tryz.underlying47 rfl (by rw [Hl39.out]; exact sizeM) ?_)
              refine (Hva.out _ hCh Hin.out.1 hub hup (by have := Hbd.out.1; omega) (fun Y hY => by have := Hbd.out.2.2 Y hY; omega) (by have := Hbd.out.2.1; omega) (by have := Hin.out.2.2.2.2.2; omega)).mono ?_
              obtain ⟨VC, hVC⟩ : ∃ v, v = valC ks R ⟨n, M⟩ first x := ⟨_, rfl⟩
              rw [← hVC]
              have HVl : Hid (VC.2.d.length = 32) := hid (by rw [hVC]; exact val_len _ _ _ _ _)
              have HVok : Hid (okB VC.2) := hid (by rw [hVC]; exact val_ok _ _ _ _ _)
              have HVC := hid hVC
              rintro e w5 ⟨uv, rfl, huv, hB5⟩
              obtain ⟨Av, cv, rfl⟩ := huv.shape
              have hw4s := hCh.size
              have b16 := b16.below hB5
              have hCh := hCh.belowR hB5
              have HI : Hid (SetW S (fun j => a.any (fun t => decide (t.f = (j : Int)))) ∧ TosIn a ∧ BsX w5 (fun b => w1.heap.size ≤ b) cs (bdF a) ∧ Blk w5 g13 62 cs) := hid ⟨HI2.out.1, HI2.out.2.1, HI2.out.2.2.1.below hB5, HI2.out.2.2.2.below hB5⟩
              have huv := huv.weak (F' := fun b => w1.heap.size ≤ b) (fun b _ h => h.elim (fun h => h.elim) (fun h => Nat.le_trans hw4s h))
              have Lv := hid (len_bd HVl.out (.slice Av VC.2.b.length cv))
              have Ov : Hid (∀ v ∈ bdL VC.2 (.slice Av VC.2.b.length cv), v.oneCell' = true) := hid one_bd
              have Hput := hid (fun (W : World) (f' : Nat → Bd) (h : BsX W (fun b => w1.heap.size ≤ b) cs (bdF a)) (hu : Rd W (fun b => w1.heap.size ≤ b) (.slice Av VC.2.b.length cv) (bys VC.2.b)) (e : ∀ i, f' i = if i = f then VC.2 else bdF a i) => h.put hf16 HVl.out hu e)
              obtain ⟨lv, hlv⟩ : ∃ l, l = bdL VC.2 (.slice Av VC.2.b.length cv) := ⟨_, rfl⟩
              rw [← hlv] at Lv Ov Hput ⊢
              clear hVC hlv hB5 HI2 hw4s b5 b6 hub hup
              go_wp2_with (first | (refine wp_newst 51 18 (.tmp 76) rfl rfl rfl rfl rfl rfl zeroBd19 (l := lv) rfl (by rw [Lv.out]; rfl) (by rw [Lv.out]; exact sizeBd19) Ov.out (by simp) ?_; intro w6 b18 hB6 hs6; refine wp_stop ?_))
              have hw5s := hCh.size
              have b16 := b16.below hB6
              have hCh := hCh.belowR hB6
              have huv := huv.below hB6
              have HI2 : Hid (SetW S (fun j => a.any (fun t => decide (t.f = (j : Int)))) ∧ TosIn a ∧ BsX w6 (fun b => w1.heap.size ≤ b) cs (bdF a) ∧ Blk w6 g13 62 cs) := hid ⟨HI.out.1, HI.out.2.1, HI.out.2.2.1.below hB6, HI.out.2.2.2.below hB6⟩
              obtain ⟨g18, hg18⟩ : ∃ g, g = w5.heap.size := ⟨_, rfl⟩
              rw [← hg18] at b18 ⊢
              clear hg18 hs6 hB6 HI hw5s
              refine wp_go ?_
              by_cases cv : VC.1 ≠ 0
              · have ev : (VC.1 != 0) = true := neNN cv
                have Hte : Hid (TK [] P = .error VC.1) := hid (HTX.out.trans (by rw [Htk.out, HVC.out]; exact tk_val Hox.out Hn0.out Hnany.out (by rw [← HVC.out]; exact cv)))
                have Ht : Hid (T = (zCi, VC.1)) := hid (by have h := Htt.out; rw [Hte.out] at h; exact h)
                have b10 := K10.out _ hCh
                have hBz : Below w.heap.size w _ := HBz.out _ hCh
                go_wp2_with (first | refine wp_bld 35 [] rfl rfl [] rfl bldC0 ?_ | (refine wp_st 35 (.tmp 10) (.tmp 80) rfl rfl rfl (f := 0) rfl (l := ciL zCi (.slice none 0 0)) rfl b10 (by exact Nat.le_refl _) sizeCi one_ci ?_; intro w9 hd9 hG9; refine wp_stop ?_))
                rw [set_all (ciL zCi (.slice none 0 0)) (ciL zCi (.slice none 0 0)) rfl] at hd9
                refine wp_go ?_
                go_wp2
                refine ret_cell1 rfl rfl rfl hd9.whole Tryz.underlying35 rfl sizeCi rfl ?_
                exact ChQ.err Ht.out (hBz.grown hG9 hBz.size (by intro k hk; injection hk with hk; omega))
              · have cv : VC.1 = 0 := Decidable.not_not.1 cv
                have ev : (VC.1 != 0) = false := neNI cv
                have Htn : Hid (TK [] P = TK (a ++ [⟨x.f, VC.2, HVl.out⟩]) (P.drop (i + 1))) := hid (HTX.out.trans (by
                  rw [Htk.out]
                  have e := tk_go (ks := ks) (R := R) (V := ⟨n, M⟩) (first := first) (reg := reg) (P := P.drop (i + 1)) Hox.out Hn0.out Hnany.out (by rw [← HVC.out]; exact cv)
                  rw [e]
                  have : (⟨x.f, (valC ks R ⟨n, M⟩ first x).2, val_len ks R ⟨n, M⟩ first x⟩ : To) = ⟨x.f, VC.2, HVl.out⟩ := by
                    congr 1
                    rw [HVC.out]
                  rw [this]))
                have m1 := b16.cellAt 1 _ HM.out.c1
                rw [Hf.out] at m1
                have hor := or_bit17 S f hSl hf16
                have hf16I : (f : Int) < 16 := by omega
                have b13 := HI2.out.2.2.2
                have Hlc := hid HI2.out.2.2.1.len
                obtain ⟨S', hS'⟩ : ∃ S', S' = putB S f := ⟨_, rfl⟩
                have HS' := hid hS'
                rw [← hS'] at hor
                clear hS' cv HTX
                go_wp2_with (first | refine wp_ixp 62 (.tmp 13) (.tmp 88) rfl rfl rfl rfl Tryz.underlying62 hf16 sizeBd19 ?_ | refine wp_ld 51 (.tmp 18) rfl rfl rfl b18.whole Tryz.underlying51 rfl (by rw [Lv.out]; exact sizeBd19) ?_ | (refine wp_st 51 (.tmp 90) (.tmp 89) rfl rfl rfl (f := 0 + f * 36) rfl (l := lv) rfl b13 (by rw [Lv.out, Hlc.out]; omega) (by rw [Lv.out]; exact sizeBd19) Ov.out ?_; intro w7 hd7 hG7; refine wp_stop ?_))
                rw [Nat.zero_add] at hd7
                have hkb : ∀ b, b < w6.heap.size → w1.heap.size ≤ b → w1.heap.size ≤ b ∧ w7.heap[b]? = w6.heap[b]? := fun b hb hF => ⟨hF, hG7.block b hb (fun e => by injection e with e; omega)⟩
                have hb7 := Hput.out w7 (bdF (a ++ [⟨x.f, VC.2, HVl.out⟩])) (HI2.out.2.2.1.keep hkb) (huv.keep hkb) (fun j => bdF_snoc Hf.out Hnany.out j)
                have hS7 : SetW S' (fun j => (a ++ [(⟨x.f, VC.2, HVl.out⟩ : To)]).any (fun t => decide (t.f = (j : Int)))) := by
                  rw [HS'.out]
                  refine (HI2.out.1.put hf16).congr (fun j _ => ?_)
                  rw [List.any_append]
                  congr 1
                  show decide (j = f) = ([(⟨x.f, VC.2, HVl.out⟩ : To)].any (fun t => decide (t.f = (j : Int))))
                  rw [List.any_cons, List.any_nil, Bool.or_false]
                  show decide (j = f) = decide (x.f = (j : Int))
                  rw [Hf.out]
                  exact decide_eq_decide.2 (by omega)
                have ht7 := HI2.out.2.1.snoc (t := ⟨x.f, VC.2, HVl.out⟩) Hnany.out (by show 0 ≤ x.f ∧ x.f < 16; rw [Hf.out]; omega) HVok.out
                have HI7 := hid (And.intro hS7 (And.intro ht7 (And.intro hb7 hd7)))
                have hCh := hCh.grow hG7 (fun k hk => by injection hk with hk; exact .inl hk.symm)
                clear hb7 hS7 ht7 hd7 hG7 hkb HI2 b13 b16 b18 m1 huv
                refine wp_go ?_
                go_wp2
                go_roundw
                case rel => exact ⟨i + 1, S', a ++ [⟨x.f, VC.2, HVl.out⟩], _, by omega, by rw [List.length_append, hai]; rfl, by go_num, rfl, Htn, HI7, hCh⟩
                case measure => first | (simp [intOf]; done) | (simp [intOf]; omega)
          · have er : (x.r != reg) = true := neNN cr
            have Hte : Hid (TK [] P = .error 10) := hid (HTX.out.trans (by rw [Htk.out]; exact tk_reg Hox.out (.inr cr)))
            have Ht : Hid (T = (zCi, 10)) := hid (by have h := Htt.out; rw [Hte.out] at h; exact h)
            have b10 := K10.out _ hCh
            have hBz : Below w.heap.size w _ := HBz.out _ hCh
            go_wp2_with (first | refine wp_bld 35 [] rfl rfl [] rfl bldC0 ?_ | (refine wp_st 35 (.tmp 10) (.tmp 63) rfl rfl rfl (f := 0) rfl (l := ciL zCi (.slice none 0 0)) rfl b10 (by exact Nat.le_refl _) sizeCi one_ci ?_; intro w9 hd9 hG9; refine wp_stop ?_))
            rw [set_all (ciL zCi (.slice none 0 0)) (ciL zCi (.slice none 0 0)) rfl] at hd9
            refine wp_go ?_
            go_wp2
            refine ret_cell1 rfl rfl rfl hd9.whole Tryz.underlying35 rfl sizeCi rfl ?_
            exact ChQ.err Ht.out (hBz.grown hG9 hBz.size (by intro k hk; injection hk with hk; omega))
        · have e5 : (x.k != 5) = true := neNN c5
          have Hte : Hid (TK [] P = .error 10) := hid (HTX.out.trans (by rw [Htk.out]; exact tk_reg Hox.out (.inl c5)))
          have Ht : Hid (T = (zCi, 10)) := hid (by have h := Htt.out; rw [Hte.out] at h; exact h)
          have b10 := K10.out _ hCh
          have hBz : Below w.heap.size w _ := HBz.out _ hCh
          go_wp2_with (first | refine wp_bld 35 [] rfl rfl [] rfl bldC0 ?_ | (refine wp_st 35 (.tmp 10) (.tmp 63) rfl rfl rfl (f := 0) rfl (l := ciL zCi (.slice none 0 0)) rfl b10 (by exact Nat.le_refl _) sizeCi one_ci ?_; intro w9 hd9 hG9; refine wp_stop ?_))
          rw [set_all (ciL zCi (.slice none 0 0)) (ciL zCi (.slice none 0 0)) rfl] at hd9
          refine wp_go ?_
          go_wp2
          refine ret_cell1 rfl rfl rfl hd9.whole Tryz.underlying35 rfl sizeCi rfl ?_
          exact ChQ.err Ht.out (hBz.grown hG9 hBz.size (by intro k hk; injection hk with hk; omega))
      · have hI : ¬ (i : Int) < (P.length : Int) := by omega
        have hie : i = P.length := by omega
        have Hte : Hid (TK [] P = .ok a) := hid (HTK.out.trans (by rw [hie, List.drop_length, Htk.out]; rfl))
        have htt := Htt.out
        rw [Hte.out] at htt
        have Ht : Hid (T = (folC a, 0)) := hid htt
        have hane : a ≠ [] := fun h => by rw [h] at hai; simp at hai; omega
        have hfo := cfollow19_any a S cs (fun b => w1.heap.size ≤ b) wr HI.out.1 HI.out.2.2.1 HI.out.2.1 hane
        have Hfo := hid hfo
        have b13 := HI.out.2.2.2
        have Hlc := hid HI.out.2.2.1.len
        have Hf32 := hid (fol_len a)
        clear htt hfo hane hie hai Htt Hte HTK
        go_wp2_with (first | refine wp_ld 62 (.tmp 13) rfl rfl rfl b13.whole Tryz.underlying62 rfl (by rw [Hlc.out]; exact size16B) ?_)
        refine Hfo.out.mono ?_
        obtain ⟨fo, hfo⟩ : ∃ x, x = folC a := ⟨_, rfl⟩
        rw [← hfo] at Ht Hf32 ⊢
        rintro e w8 ⟨u, rfl, hu, hB8⟩
        obtain ⟨Au, cu, rfl⟩ := hu.shape
        have hws := hCh.size
        have hCh := hCh.belowR hB8
        have b10 := K10.out _ hCh
        have Lc := hid (len_ci Hf32.out (.slice Au fo.b.length cu))
        have Oc : Hid (∀ v ∈ ciL fo (.slice Au fo.b.length cu), v.oneCell' = true) := hid one_ci
        obtain ⟨lc, hlc⟩ : ∃ l, l = ciL fo (.slice Au fo.b.length cu) := ⟨_, rfl⟩
        rw [← hlc] at Lc Oc ⊢
        have Hlcc := hid hlc
        clear hlc hfo Hfo b13 HI hB8
        go_wp2_with (first | (refine wp_st 35 (.tmp 10) (.tmp 94) rfl rfl rfl (f := 0) rfl (l := lc) rfl b10 (by rw [Lc.out, len_ci (x := zCi) rfl]; exact Nat.le_refl _) (by rw [Lc.out]; exact sizeCi) Oc.out ?_; intro w9 hd9 hG9; refine wp_stop ?_))
        rw [set_all _ lc (by rw [Lc.out]; rfl)] at hd9
        have hu := hu.keep (F' := fun b => w.heap.size ≤ b) (fun b hb hF => by
          refine ⟨hF.elim (fun h => by omega) (fun h => by omega), hG9.block b hb (fun e => by injection e with e; rcases hF with h | h <;> omega)⟩)
        have hBz := HBz.out _ hCh
        refine wp_go ?_
        go_wp2
        refine ret_cell1 rfl rfl rfl hd9.whole Tryz.underlying35 rfl (by rw [Lc.out]; exact sizeCi) rfl ?_
        rw [Ht.out, Hlcc.out]
        exact ⟨_, rfl, hu, hBz.grown hG9 hBz.size (by intro k hk; injection hk with hk; omega)⟩
end Go.Proofs.YtnhhbbjkeekneaaGreatDoor
