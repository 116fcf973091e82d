/- CD: layer 17: what finds votes. -/
import Derived.Test.YtnhhbbjkeekneaaGreatDoorCB
namespace Go.Proofs.YtnhhbbjkeekneaaGreatDoor
open Go.RowKit Go.V
/-- what finder$1 holds on to: keys, view, message -/
structure FD (w : World) (gk gv gm : Nat) (uk ur : Value) (n : Int) (M : Nat) (l : List Value) : Prop where
  k : Blk w gk 40 [uk, ur]
  v : Blk w gv 24 [.int .i64 n, .int .u16 (M : Int)]
  m : Blk w gm 47 l
theorem FD.below {w w' : World} {gk gv gm : Nat} {uk ur : Value} {n : Int} {M : Nat} {l : List Value} (h : FD w gk gv gm uk ur n M l) (hB : Below w.heap.size w w') : FD w' gk gv gm uk ur n M l := ⟨h.k.below hB, h.v.below hB, h.m.below hB⟩
theorem FD.keep {w w' : World} {gk gv gm : Nat} {uk ur : Value} {n : Int} {M : Nat} {l : List Value} (h : FD w gk gv gm uk ur n M l) (hB : ∀ b, b = gk ∨ b = gv ∨ b = gm → w'.heap[b]? = w.heap[b]?) : FD w' gk gv gm uk ur n M l := ⟨h.k.keep (hB _ (.inl rfl)), h.v.keep (hB _ (.inr (.inl rfl))), h.m.keep (hB _ (.inr (.inr rfl)))⟩
theorem finder17_any (l : List Value) (uk ur : Value) (n : Int) (M : Nat) (w : World) :
    Calls Tryz.prog 57 #[.agg #[uk, ur], vw n M, .agg l.toArray] w fun e w' => ∃ gk gv gm, e = .returned (.func (.func 86) #[] #[.pointer (some ⟨gk, 0, none⟩), .pointer (some ⟨gv, 0, none⟩), .pointer (some ⟨gm, 0, none⟩)]) ∧ FD w' gk gv gm uk ur n M l ∧ (w.heap.size ≤ gk ∧ w.heap.size ≤ gv ∧ w.heap.size ≤ gm) ∧ Below w.heap.size w w' := by
  obtain ⟨W0, hW0, b4, b5, b6, hB⟩ := alloc3 w 40 24 47 [uk, ur] [.int .i64 n, .int .u16 (M : Int)] l
  have hq := hid (fun W (h : W = W0) => (⟨_, _, _, rfl, ⟨h ▸ b4, h ▸ b5, h ▸ b6⟩, ⟨by omega, by omega, by omega⟩, h ▸ hB⟩ : ∃ gk gv gm, Ending.returned (.func (.func 86) #[] #[.pointer (some ⟨w.heap.size, 0, none⟩), .pointer (some ⟨w.heap.size + 1, 0, none⟩), .pointer (some ⟨w.heap.size + 1 + 1, 0, none⟩)]) = .returned (.func (.func 86) #[] #[.pointer (some ⟨gk, 0, none⟩), .pointer (some ⟨gv, 0, none⟩), .pointer (some ⟨gm, 0, none⟩)]) ∧ FD W gk gv gm uk ur n M l ∧ (w.heap.size ≤ gk ∧ w.heap.size ≤ gv ∧ w.heap.size ≤ gm) ∧ Below w.heap.size w W))
  unfold vw
  clear b4 b5 b6 hB
  go_enter Tryz.func57, Tryz.ntmps57
  go_wp2
  first | rw [← hW0] | (simp only [List.toArray] at hW0 ⊢; rw [← hW0])
  go_ret
  exact hq.out _ rfl
/-- a message of zeros -/
def zMg : Mg := ⟨0, 0, 0, 0, 0, List.replicate 32 0, [], []⟩
theorem zM_eq : zM = zMg.l (.slice none 0 0) (.slice none 0 0) := by simp [zM, zMg, Mg.l, zs8, bvs, byteV]
/-- what OpenOf tells: a message, whatever the error -/
def OpP (w : World) (r : Except Nat Mg) (e : Ending) (w' : World) : Prop := ∃ (x : Mg) (A B : Option Addr) (a b c d k : Nat), e = .returned (.tuple #[.agg (x.l (.slice A a b) (.slice B c d)).toArray, .int .i64 (k : Int)]) ∧ x.h.length = 32 ∧ (k = 0 → r = .ok x) ∧ (k ≠ 0 → ∃ k', r = .error k') ∧ Below w.heap.size w w'
theorem op_P {ks : List (List UInt8)} {V : Vc} {X : List UInt8} {w w' : World} {e : Ending} (h : ReadP w (opOf ks V X) e w') : OpP w (opOf ks V X) e w' := by
  cases hr : opOf ks V X with
  | error k =>
    rw [hr] at h
    obtain ⟨rfl, hB⟩ := h
    have hk := opof_pos hr
    exact ⟨zMg, none, none, 0, 0, 0, 0, k, by rw [zM_eq], by simp [zMg], fun h => absurd h hk, fun _ => ⟨k, rfl⟩, hB⟩
  | ok m =>
    rw [hr] at h
    obtain ⟨⟨ub, up, rfl, hub, hup⟩, hB⟩ := h
    obtain ⟨Ab, cb, rfl⟩ := hub.shape
    obtain ⟨Ap, cp, rfl, _, _⟩ := hup.slShape
    exact ⟨m, Ab, Ap, m.b.length, cb, m.ps.length, cp, 0, rfl, (opof_ok hr).1, fun _ => rfl, fun h => absurd rfl h, hB⟩
/-- what a finder tells -/
def FndP (w : World) (o : Option Mg) (e : Ending) (w' : World) : Prop := ∃ l : List Value, e = .returned (.tuple #[.agg l.toArray, .bool o.isSome]) ∧ l.length = 39 ∧ (∀ v ∈ l, v.oneCell' = true) ∧ (∀ m, o = some m → l[1]? = some (.int .i64 m.f) ∧ l[3]? = some (.int .i64 m.r)) ∧ Below w.heap.size w w'
theorem fnd_P {ks : List (List UInt8)} {V : Vc} {q : Qc} {X : List UInt8} {x : Mg} {k : Nat} {al : Bool} (hal : al = decide (x.k = q.k ∧ x.v = q.v ∧ x.s = q.s ∧ x.h = q.h)) (h0 : k = 0 → opOf ks V X = .ok x) (h1 : k ≠ 0 → ∃ k', opOf ks V X = .error k') : (fndC ks V q X).isSome = (decide (k = 0) && decide (x.v = V.n) && al) ∧ ∀ m, fndC ks V q X = some m → m = x := by
  unfold fndC
  by_cases hk : k = 0
  · rw [h0 hk]
    dsimp only
    rw [hal]
    by_cases hc : x.v = V.n ∧ x.k = q.k ∧ x.v = q.v ∧ x.s = q.s ∧ x.h = q.h
    · rw [if_pos hc]
      refine ⟨?_, fun m h => by injection h with h; exact h.symm⟩
      rw [decide_eq_true hk, decide_eq_true hc.1, decide_eq_true hc.2]
      rfl
    · rw [if_neg hc]
      refine ⟨?_, fun m h => by cases h⟩
      rw [decide_eq_true hk, Bool.true_and, ← Bool.decide_and]
      exact (decide_eq_false hc).symm
  · obtain ⟨k', hk'⟩ := h1 hk
    rw [hk']
    refine ⟨?_, fun m h => by cases h⟩
    rw [decide_eq_false hk]
    rfl
theorem beqT {a b : Int} (h : a = b) : (a == b) = true := by rw [h]; simp
theorem beqF {a b : Int} (h : a ≠ b) : (a == b) = false := by rw [beq_eq_false_iff_ne]; exact h
set_option maxRecDepth 100000 in
set_option maxHeartbeats 16000000 in
theorem find17_any (ks : List (List UInt8)) (V : Vc) (X : List UInt8) (m : Mg) (gk gv gm : Nat) (uk ur v ub up : Value) (F G : Nat → Prop) (w : World) (hKS : KS w) (hks : KsSm ks) (hk : Rd w F uk (tx ks)) (hv : Rd w G v (bys X)) (hX : X.length ≤ 1000000) (hV : V.m < 65536) (hm : m.h.length = 32) (hD : FD w gk gv gm uk ur V.n V.m (m.l ub up)) :
    Calls Tryz.prog 86 #[v, .pointer (some ⟨gk, 0, none⟩), .pointer (some ⟨gv, 0, none⟩), .pointer (some ⟨gm, 0, none⟩)] w (FndP w (fndC ks V (qOf m) X)) := by
  obtain ⟨n, M⟩ := V
  dsimp only at hV hD
  obtain ⟨A, c, rfl⟩ := hv.shape
  obtain ⟨bk, bv, bm⟩ := hD
  have Hm0 : Hid ((m.l ub up)[0]? = some (.int .i64 m.k)) := hid rfl
  have Hm2 : Hid ((m.l ub up)[2]? = some (.int .i64 m.v)) := hid rfl
  have Hm4 : Hid ((m.l ub up)[4]? = some (.int .i64 m.s)) := hid rfl
  have Hmh := hid (mg_hash hm ub up)
  have b5 := Blk.new' w 47 zM
  have hB : Below w.heap.size w (w.alloc (.cells zM.toArray 47)) := (Below.refl _ _).alloc (Nat.le_refl _) _
  have Hop := hid (fun F G Y h0 h1 h2 => (openof9_any ks ⟨n, M⟩ X uk ur (.slice A X.length c) F G Y h0 hks h1 h2 hX hV).mono (fun e w' h => op_P h))
  have bk := bk.below hB
  have bv := bv.below hB
  have bm := bm.below hB
  have hKS := hKS.below hB
  have hk := hk.below hB
  have hv := hv.below hB
  obtain ⟨lm, hlm⟩ : ∃ l, l = m.l ub up := ⟨_, rfl⟩
  rw [← hlm] at bm Hm0 Hm2 Hm4 Hmh
  obtain ⟨o, ho⟩ : ∃ o, o = fndC ks ⟨n, M⟩ (qOf m) X := ⟨_, rfl⟩
  rw [← ho]
  have Ho := hid ho
  clear ho hlm
  obtain ⟨r, hr⟩ : ∃ r, r = opOf ks ⟨n, M⟩ X := ⟨_, rfl⟩
  rw [← hr] at Hop
  have Hr := hid hr
  clear hr
  unfold vw at Hop
  go_enter Tryz.func86, Tryz.ntmps86
  go_wp2_with (first | (refine wp_new 47 rfl rfl zeroM ?_; refine wp_stop ?_))
  obtain ⟨w0, hw0⟩ : ∃ x, x = w.alloc (.cells zM.toArray 47) := ⟨_, rfl⟩
  rw [← hw0] at bk bv bm b5 hB hKS hk hv ⊢
  clear hw0
  obtain ⟨g5, hg5⟩ : ∃ g, g = w.heap.size := ⟨_, rfl⟩
  rw [← hg5] at b5 ⊢
  have hw5 : w.heap.size ≤ g5 := by omega
  clear hg5
  refine wp_go ?_
  go_wp2_with (first | refine wp_ld 40 (.tmp 1) rfl rfl rfl bk.whole Tryz.underlying40 rfl sizeKs17 ?_ | refine wp_ld 24 (.tmp 2) rfl rfl rfl bv.whole Tryz.underlying24 rfl sizeVw17 ?_)
  refine (Hop.out _ _ _ hKS hk hv).mono ?_
  rintro e w1 ⟨x, xA, xB, a1, a2, a3, a4, k, rfl, hxh, h0, h1, hB1⟩
  have bv := bv.below hB1
  have bm := bm.below hB1
  have b5 := b5.below hB1
  have hB := hB.trans (hB1.mono hB.size)
  have hl39 : (x.l (.slice xA a1 a2) (.slice xB a3 a4)).length = 39 := len_mg hxh _ _
  have Hx0 : Hid ((x.l (.slice xA a1 a2) (.slice xB a3 a4))[0]? = some (.int .i64 x.k)) := hid rfl
  have Hx1 : Hid ((x.l (.slice xA a1 a2) (.slice xB a3 a4))[1]? = some (.int .i64 x.f)) := hid rfl
  have Hx2 : Hid ((x.l (.slice xA a1 a2) (.slice xB a3 a4))[2]? = some (.int .i64 x.v)) := hid rfl
  have Hx3 : Hid ((x.l (.slice xA a1 a2) (.slice xB a3 a4))[3]? = some (.int .i64 x.r)) := hid rfl
  have Hx4 : Hid ((x.l (.slice xA a1 a2) (.slice xB a3 a4))[4]? = some (.int .i64 x.s)) := hid rfl
  have Hxc := hid (mg_hash hxh (.slice xA a1 a2) (.slice xB a3 a4))
  have Hlo := hid (mg_one x xA xB a1 a2 a3 a4)
  obtain ⟨lx, hlx⟩ : ∃ l, l = x.l (.slice xA a1 a2) (.slice xB a3 a4) := ⟨_, rfl⟩
  rw [← hlx] at hl39 Hx0 Hx1 Hx2 Hx3 Hx4 Hxc Hlo ⊢
  have Hl39 := hid hl39
  obtain ⟨al, hal⟩ : ∃ al, al = decide (x.k = m.k ∧ x.v = m.v ∧ x.s = m.s ∧ x.h = m.h) := ⟨_, rfl⟩
  have HF : Hid (o.isSome = (decide (k = 0) && decide (x.v = n) && al) ∧ ∀ m', o = some m' → m' = x) := hid (by rw [Ho.out]; exact fnd_P (q := qOf m) hal (fun h => Hr.out.symm.trans (h0 h)) (fun h => by obtain ⟨k', h'⟩ := h1 h; exact ⟨k', Hr.out.symm.trans h'⟩))
  have Hal := hid hal
  clear hlx hl39 hal h0 h1 Ho Hr Hop bk hKS hk hv hB1 hX
  go_wp2_with (first | (refine wp_newst 47 7 (.tmp 15) rfl rfl rfl rfl rfl rfl zeroM (l := lx) rfl (by rw [Hl39.out]; exact len_zM) (by rw [Hl39.out]; exact sizeM) Hlo.out (by simp) ?_; intro w2 b7 hB2 hs2; refine wp_stop ?_))
  have bv := bv.below hB2
  have bm := bm.below hB2
  have hl5 := b5.lt
  have b5 := b5.below hB2
  have hB := hB.trans (hB2.mono hB.size)
  obtain ⟨g7, hg7⟩ : ∃ g, g = w1.heap.size := ⟨_, rfl⟩
  rw [← hg7] at b7 hl5 ⊢
  clear hs2 hB2 hg7
  have x0 := b7.cellAt 0 _ Hx0.out
  have x2 := b7.cellAt 2 _ Hx2.out
  have x4 := b7.cellAt 4 _ Hx4.out
  have m0 := bm.cellAt 0 _ Hm0.out
  have m2 := bm.cellAt 2 _ Hm2.out
  have m4 := bm.cellAt 4 _ Hm4.out
  have v0 := bv.cellAt 0 _ rfl
  have xh := b7.range 5 (bvs x.h) (Hxc.out)
  have mh := bm.range 5 (bvs m.h) (Hmh.out)
  have Lxh : Hid ((bvs x.h).length = 32) := hid (by rw [len_bvs]; exact hxh)
  have Lmh : Hid ((bvs m.h).length = 32) := hid (by rw [len_bvs]; exact hm)
  have Heq := hid (eqH17 x.h m.h hxh hm)
  clear hxh hm
  refine wp_go ?_
  go_upto_region 2 with (fail)
  go_cut [9] (fun sc wx => sc = .bool al ∧ wx = w2)
  case first =>
    clear Hx0 Hx2 Hx4 Hm0 Hm2 Hm4 HF v0
    by_cases h0 : x.k = m.k
    · have b0x := beqT h0
      have H0 := hid h0
      clear h0
      by_cases h2 : x.v = m.v
      · have b2x := beqT h2
        have H2 := hid h2
        clear h2
        by_cases h4 : x.s = m.s
        · have b4x := beqT h4
          have H4 := hid h4
          clear h4
          by_cases hh : x.h = m.h
          · have Ha : Hid (al = true) := hid (by rw [Hal.out]; exact decide_eq_true ⟨H0.out, H2.out, H4.out, hh⟩)
            have heq : ∀ W : World, (Op.equalIn 10000 32 (.agg (bvs x.h).toArray) (.agg (bvs m.h).toArray)).run Tryz.prog W = .ok true W := by have := Heq.out; rw [decide_eq_true hh] at this; exact this
            clear hh Heq
            go_wp2_with (first | refine wp_ldg 32 (.tmp 37) (by rfl) rfl rfl xh Tryz.underlying32 rfl (by rw [Lxh.out]; exact size25) ?_ | refine wp_ldg 32 (.tmp 39) (by rfl) rfl rfl mh Tryz.underlying32 rfl (by rw [Lmh.out]; exact size25) ?_)
            go_meet
            exact ⟨by rw [Ha.out], rfl⟩
          · have Ha : Hid (al = false) := hid (by rw [Hal.out]; exact decide_eq_false (fun h => hh h.2.2.2))
            have heq : ∀ W : World, (Op.equalIn 10000 32 (.agg (bvs x.h).toArray) (.agg (bvs m.h).toArray)).run Tryz.prog W = .ok false W := by have := Heq.out; rw [decide_eq_false hh] at this; exact this
            clear hh Heq
            go_wp2_with (first | refine wp_ldg 32 (.tmp 37) (by rfl) rfl rfl xh Tryz.underlying32 rfl (by rw [Lxh.out]; exact size25) ?_ | refine wp_ldg 32 (.tmp 39) (by rfl) rfl rfl mh Tryz.underlying32 rfl (by rw [Lmh.out]; exact size25) ?_)
            go_meet
            exact ⟨by rw [Ha.out], rfl⟩
        · have Ha : Hid (al = false) := hid (by rw [Hal.out]; exact decide_eq_false (fun h => h4 h.2.2.1))
          have b4x := beqF h4
          clear h4 Heq
          go_wp2
          go_meet
          exact ⟨by rw [Ha.out], rfl⟩
      · have Ha : Hid (al = false) := hid (by rw [Hal.out]; exact decide_eq_false (fun h => h2 h.2.1))
        have b2x := beqF h2
        clear h2 Heq
        go_wp2
        go_meet
        exact ⟨by rw [Ha.out], rfl⟩
    · have Ha : Hid (al = false) := hid (by rw [Hal.out]; exact decide_eq_false (fun h => h0 h.1))
      have b0x := beqF h0
      clear h0 Heq
      go_wp2
      go_meet
      exact ⟨by rw [Ha.out], rfl⟩
  case rest =>
  obtain ⟨rfl, rfl⟩ := hcut
  clear x0 x4 m0 m2 m4 xh mh Heq Hal Lxh Lmh bm
  have hlt5 := b5.lt
  have Hfin : Hid (∀ W b, o.isSome = b → Below w.heap.size w W → FndP w o (.returned (.tuple #[.agg lx.toArray, .bool b])) W) := hid (fun W b hb hBW => ⟨lx, by rw [hb], Hl39.out, Hlo.out, fun m' hm' => by have := HF.out.2 m' hm'; subst this; exact ⟨Hx1.out, Hx3.out⟩, hBW⟩)
  by_cases hk0 : k = 0
  · have k0 : ((k : Int) == 0) = true := beqT (by omega)
    by_cases hvn : x.v = n
    · have v0x := beqT hvn
      have Hb : Hid (o.isSome = al) := hid (by rw [HF.out.1, decide_eq_true hk0, decide_eq_true hvn]; rfl)
      clear hvn hk0 HF
      go_wp2_with (first | refine wp_ld 47 (.tmp 7) rfl rfl rfl b7.whole Tryz.underlying47 rfl (by rw [Hl39.out]; exact sizeM) ?_ | (refine wp_st 47 (.tmp 5) (.tmp 43) rfl rfl rfl (f := 0) rfl (l := lx) rfl b5 (by rw [len_zM, Hl39.out]; omega) (by rw [Hl39.out]; exact sizeM) Hlo.out ?_; intro w4 k5 G5; refine wp_stop ?_))
      rw [set_all _ _ (by rw [len_zM, Hl39.out])] at k5
      have hB := hB.grown G5 hB.size (fun k hk => by injection hk with hk; omega)
      refine wp_go ?_
      go_wp2
      refine ret_cell1 rfl rfl rfl k5.whole Tryz.underlying47 rfl (by rw [Hl39.out]; exact sizeM) rfl ?_
      exact Hfin.out _ _ Hb.out hB
    · have v0x := beqF hvn
      have Hb : Hid (o.isSome = false) := hid (by rw [HF.out.1, decide_eq_false hvn, Bool.and_false]; rfl)
      clear hvn hk0 HF
      go_wp2_with (first | refine wp_ld 47 (.tmp 7) rfl rfl rfl b7.whole Tryz.underlying47 rfl (by rw [Hl39.out]; exact sizeM) ?_ | (refine wp_st 47 (.tmp 5) (.tmp 43) rfl rfl rfl (f := 0) rfl (l := lx) rfl b5 (by rw [len_zM, Hl39.out]; omega) (by rw [Hl39.out]; exact sizeM) Hlo.out ?_; intro w4 k5 G5; refine wp_stop ?_))
      rw [set_all _ _ (by rw [len_zM, Hl39.out])] at k5
      have hB := hB.grown G5 hB.size (fun k hk => by injection hk with hk; omega)
      refine wp_go ?_
      go_wp2
      refine ret_cell1 rfl rfl rfl k5.whole Tryz.underlying47 rfl (by rw [Hl39.out]; exact sizeM) rfl ?_
      exact Hfin.out _ _ Hb.out hB
  · have k0 : ((k : Int) == 0) = false := beqF (by omega)
    have Hb : Hid (o.isSome = false) := hid (by rw [HF.out.1, decide_eq_false hk0]; rfl)
    clear hk0 HF
    go_wp2_with (first | refine wp_ld 47 (.tmp 7) rfl rfl rfl b7.whole Tryz.underlying47 rfl (by rw [Hl39.out]; exact sizeM) ?_ | (refine wp_st 47 (.tmp 5) (.tmp 43) rfl rfl rfl (f := 0) rfl (l := lx) rfl b5 (by rw [len_zM, Hl39.out]; omega) (by rw [Hl39.out]; exact sizeM) Hlo.out ?_; intro w4 k5 G5; refine wp_stop ?_))
    rw [set_all _ _ (by rw [len_zM, Hl39.out])] at k5
    have hB := hB.grown G5 hB.size (fun k hk => by injection hk with hk; omega)
    refine wp_go ?_
    go_wp2
    refine ret_cell1 rfl rfl rfl k5.whole Tryz.underlying47 rfl (by rw [Hl39.out]; exact sizeM) rfl ?_
    exact Hfin.out _ _ Hb.out hB
end Go.Proofs.YtnhhbbjkeekneaaGreatDoor
