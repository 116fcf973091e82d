/- Cu: layer 17, the document's side: contract of ref17.Counts. -/
import Derived.Test.YthbbpfnfnnmdnaaDoorCt
namespace Go.Proofs.YthbbpfnfnnmdnaaDoor
open Go.RowKit Go.V
def qOf (m : Mg) : Qc := ⟨m.k, m.v, m.r, m.s, m.h⟩
def cntI (ks : List (List UInt8)) (V : Vc) (q : Qc) (X : List UInt8) : Int := match cntC ks V q X with
  | some i => (i : Int)
  | none => -1
theorem opof_pos {ks : List (List UInt8)} {V : Vc} {X : List UInt8} {e : Nat} (h : opOf ks V X = .error e) : e ≠ 0 := by
  unfold opOf at h
  split at h
  · split at h
    · cases h
    · injection h with h; omega
  · rename_i e' he
    injection h with h
    subst h
    exact op_pos he
theorem opof_ok {ks : List (List UInt8)} {V : Vc} {X : List UInt8} {m : Mg} (h : opOf ks V X = .ok m) : m.h.length = 32 ∧ 0 ≤ m.f := by
  unfold opOf at h
  split at h
  · rename_i m' hm
    split at h
    · rename_i hb
      injection h with h
      subst h
      unfold hasB at hb
      rw [Bool.and_eq_true, decide_eq_true_eq] at hb
      exact ⟨op_hash hm, by omega⟩
    · cases h
  · cases h
theorem cntI_err {ks : List (List UInt8)} {V : Vc} {q : Qc} {X : List UInt8} {e : Nat} (h : opOf ks V X = .error e) : cntI ks V q X = -1 := by
  unfold cntI cntC
  rw [h]
theorem cnt_okI {ks : List (List UInt8)} {V : Vc} {q : Qc} {X : List UInt8} {m : Mg} (h : opOf ks V X = .ok m) (hc : m.v = V.n ∧ m.k = q.k ∧ m.v = q.v ∧ m.r = q.r ∧ m.s = q.s ∧ m.h = q.h) : cntI ks V q X = m.f := by
  have := (opof_ok h).2
  have e : cntC ks V q X = some m.f.toNat := by unfold cntC; rw [h]; exact if_pos hc
  unfold cntI
  rw [e]
  show ((m.f.toNat : Nat) : Int) = m.f
  omega
theorem cnt_noI {ks : List (List UInt8)} {V : Vc} {q : Qc} {X : List UInt8} {m : Mg} (h : opOf ks V X = .ok m) (hc : ¬ (m.v = V.n ∧ m.k = q.k ∧ m.v = q.v ∧ m.r = q.r ∧ m.s = q.s ∧ m.h = q.h)) : cntI ks V q X = -1 := by
  have e : cntC ks V q X = none := by unfold cntC; rw [h]; exact if_neg hc
  unfold cntI
  rw [e]
theorem eqH17 (p q : List UInt8) (hp : p.length = 32) (hq : q.length = 32) : ∀ W : World, (Op.equalIn 10000 41 (.agg (bvs p).toArray) (.agg (bvs q).toArray)).run Tryd.prog W = .ok (decide (p = q)) W := fun W => by
  have := run_equalIn_bytes (P := Tryd.prog) W 9998 41 5 32 Tryd.underlying41 Tryd.underlying5 Tryd.sizeOf5 p q hp hq
  rw [show decide (p = q) = (p == q) from by rw [Bool.eq_iff_iff]; simp]
  exact this
theorem bneI {a b : Int} (h : a = b) : (a != b) = false := by rw [h]; simp
theorem bneN {a b : Int} (h : a ≠ b) : (a != b) = true := bne_iff_ne.2 h
set_option maxRecDepth 100000 in
set_option maxHeartbeats 16000000 in
theorem rcnt17_any (ks : List (List UInt8)) (V : Vc) (X : List UInt8) (m : Mg) (uk ur v ub up : Value) (F G : Nat → Prop) (w : World) (hks : KsSm ks) (hk : Rd w F uk (tx ks)) (hv : Rd w G v (bys X)) (hX : X.length ≤ 1000000) (hV : V.m < 65536) (hm : m.h.length = 32) :
    Calls Tryd.prog 35 #[.agg #[uk, ur], vw V.n V.m, .agg (m.l ub up).toArray, v] w fun e w' => e = .returned (.int .i64 (cntI ks V (qOf m) X)) ∧ Below w.heap.size w w' := by
  obtain ⟨n, M⟩ := V
  dsimp only at hV
  obtain ⟨A, c, rfl⟩ := hv.shape
  have Hm0 : Hid ((m.l ub up)[0]? = some (.int .i64 m.k)) := hid rfl
  have Hm2 : Hid ((m.l ub up)[2]? = some (.int .i64 m.v)) := hid rfl
  have Hm3 : Hid ((m.l ub up)[3]? = some (.int .i64 m.r)) := hid rfl
  have Hm4 : Hid ((m.l ub up)[4]? = some (.int .i64 m.s)) := hid rfl
  have Hmh := hid (mg_hash hm ub up)
  obtain ⟨W0, hW0, b4, b5, b6, hB⟩ := alloc3 w 33 24 59 [uk, ur] [.int .i64 n, .int .u16 (M : Int)] (m.l ub up)
  have Hop := hid (fun F G Y h1 h2 => ropenof9_any ks ⟨n, M⟩ X uk ur (.slice A X.length c) F G Y hks h1 h2 hX hV)
  have hk := hk.below hB
  have hv := hv.below hB
  obtain ⟨lm, hlm⟩ : ∃ l, l = m.l ub up := ⟨_, rfl⟩
  rw [← hlm] at hW0 b6 Hm0 Hm2 Hm3 Hm4 Hmh ⊢
  obtain ⟨q, hq⟩ : ∃ q, q = cntI ks ⟨n, M⟩ (qOf m) X := ⟨_, rfl⟩
  rw [← hq]
  have He : Hid (∀ e, opOf ks ⟨n, M⟩ X = .error e → q = -1 ∧ e ≠ 0) := hid (fun e h => ⟨by rw [hq]; exact cntI_err h, opof_pos h⟩)
  have Hy : Hid (∀ x, opOf ks ⟨n, M⟩ X = .ok x → (x.v = n ∧ x.k = m.k ∧ x.v = m.v ∧ x.r = m.r ∧ x.s = m.s ∧ x.h = m.h) → q = x.f) := hid (fun x h hc => by rw [hq]; exact cnt_okI h hc)
  have Hn : Hid (∀ x, opOf ks ⟨n, M⟩ X = .ok x → ¬ (x.v = n ∧ x.k = m.k ∧ x.v = m.v ∧ x.r = m.r ∧ x.s = m.s ∧ x.h = m.h) → q = -1) := hid (fun x h hc => by rw [hq]; exact cnt_noI h hc)
  clear hq hlm
  unfold vw
  go_enter Tryd.func35, Tryd.ntmps35
  go_upto_region 1 with (fail)
  first | rw [← hW0] | (simp only [List.toArray] at hW0 ⊢; rw [← hW0])
  clear hW0
  obtain ⟨g6, hg6⟩ : ∃ g, g = w.heap.size + 1 + 1 := ⟨_, rfl⟩
  rw [← hg6] at b6 ⊢
  obtain ⟨g5, hg5⟩ : ∃ g, g = w.heap.size + 1 := ⟨_, rfl⟩
  rw [← hg5] at b5 ⊢
  obtain ⟨g4, hg4⟩ : ∃ g, g = w.heap.size := ⟨_, rfl⟩
  rw [← hg4] at b4 ⊢
  clear hg4 hg5 hg6
  go_wp2_with (first | refine wp_ld 33 (.tmp 4) rfl rfl rfl b4.whole Tryd.underlying33 rfl sizeKs17 ?_ | refine wp_ld 24 (.tmp 5) rfl rfl rfl b5.whole Tryd.underlying24 rfl sizeVw17 ?_)
  refine (Hop.out _ _ _ hk hv).mono ?_
  intro e w1 hP
  cases hr : opOf ks ⟨n, M⟩ X with
  | error k =>
    rw [hr] at hP
    obtain ⟨rfl, hB1⟩ := hP
    obtain ⟨hq, hk0⟩ := He.out k hr
    have Hq := hid hq
    have ne : ((k : Int) != 0) = true := bneN (by omega)
    have hlz := hid (len_gM len_zM k)
    have hoz := hid (one_gM one_zM8 k)
    have Hf0 := hid (gM_err len_zM k)
    have Hg := hid (fun j h => gM_get len_zM k j h)
    obtain ⟨lg, hlg⟩ : ∃ l, l = gM zM k := ⟨_, rfl⟩
    rw [← hlg] at hlz hoz Hf0 Hg ⊢
    have hB := hB.trans (hB1.mono hB.size)
    clear hlg hr hq hk0 He Hy Hn hB1
    go_wp2_with (first | (refine wp_newst 96 9 (.tmp 14) rfl rfl rfl rfl rfl rfl zeroG8 (l := lg) rfl (by rw [hlz.out]; exact len_gM len_zM 0) (by rw [hlz.out]; exact sizeG8) hoz.out (by simp) ?_; intro w2 b9 hB2 hs2; refine wp_stop ?_))
    have hB := hB.trans (hB2.mono hB.size)
    clear hB2 hs2
    have hzr := b9.range 0 zM (fun j x hx => by rw [Nat.zero_add, Hg.out j (by have := (List.getElem?_eq_some_iff.1 hx).1; rwa [len_zM] at this)]; exact hx)
    refine wp_go ?_
    go_wp2_with (first | refine wp_ld 59 (.tmp 15) rfl rfl rfl hzr Tryd.underlying59 rfl (by rw [len_zM]; exact sizeM) ?_ | (refine wp_newst 59 10 (.tmp 16) rfl rfl rfl rfl rfl rfl zeroM (l := zM) rfl rfl (by rw [len_zM]; exact sizeM) one_zM8 (by simp [Act.put]) ?_; intro w3 b10 hB3 hs3; refine wp_stop ?_))
    have b9 := b9.below hB3
    have hB := hB.trans (hB3.mono hB.size)
    have c1 := b9.cellAt 39 _ Hf0.out
    clear hB3 hs3 hzr
    refine wp_go ?_
    go_wp2
    go_ret
    exact ⟨by rw [Hq.out]; rfl, hB⟩
  | ok x =>
    rw [hr] at hP
    obtain ⟨⟨xb, xp, rfl, hxb, hxp⟩, hB1⟩ := hP
    obtain ⟨Ab, cb, rfl⟩ := hxb.shape
    obtain ⟨Ap, cp, rfl, _, _⟩ := hxp.slShape
    have Hxh := hid (opof_ok hr).1
    have Hy1 := hid (Hy.out x hr)
    have Hn1 := hid (Hn.out x hr)
    have hl39 : (x.l (.slice Ab x.b.length cb) (.slice Ap x.ps.length cp)).length = 39 := len_mg Hxh.out _ _
    have Hx0 : Hid ((x.l (.slice Ab x.b.length cb) (.slice Ap x.ps.length cp))[0]? = some (.int .i64 x.k)) := hid rfl
    have Hx1 : Hid ((x.l (.slice Ab x.b.length cb) (.slice Ap x.ps.length cp))[1]? = some (.int .i64 x.f)) := hid rfl
    have Hx2 : Hid ((x.l (.slice Ab x.b.length cb) (.slice Ap x.ps.length cp))[2]? = some (.int .i64 x.v)) := hid rfl
    have Hx3 : Hid ((x.l (.slice Ab x.b.length cb) (.slice Ap x.ps.length cp))[3]? = some (.int .i64 x.r)) := hid rfl
    have Hx4 : Hid ((x.l (.slice Ab x.b.length cb) (.slice Ap x.ps.length cp))[4]? = some (.int .i64 x.s)) := hid rfl
    have Hxc := hid (mg_hash Hxh.out (.slice Ab x.b.length cb) (.slice Ap x.ps.length cp))
    have hlo := hid (one_mg (m := x) (A := Ab) (B := Ap) (n := x.b.length) (c := cb) (k := x.ps.length) (d := cp))
    obtain ⟨lx, hlx⟩ : ∃ l, l = x.l (.slice Ab x.b.length cb) (.slice Ap x.ps.length cp) := ⟨_, rfl⟩
    rw [← hlx] at hl39 Hx0 Hx1 Hx2 Hx3 Hx4 Hxc hlo ⊢
    have Hl39 := hid hl39
    have hlz := hid (len_gM hl39 0)
    have hoz := hid (one_gM hlo.out 0)
    have Hf0 := hid (gM_err hl39 0)
    have Hg := hid (fun j h => gM_get hl39 0 j h)
    obtain ⟨lg, hlg⟩ : ∃ l, l = gM lx 0 := ⟨_, rfl⟩
    rw [← hlg] at hlz hoz Hf0 Hg ⊢
    have hB := hB.trans (hB1.mono hB.size)
    have b5 := b5.below hB1
    have b6 := b6.below hB1
    clear hlg hlx hr He Hy Hn hB1 hxb hxp hl39
    go_wp2_with (first | (refine wp_newst 96 9 (.tmp 14) rfl rfl rfl rfl rfl rfl zeroG8 (l := lg) rfl (by rw [hlz.out]; exact len_gM len_zM 0) (by rw [hlz.out]; exact sizeG8) hoz.out (by simp) ?_; intro w2 b9 hB2 hs2; refine wp_stop ?_))
    have hB := hB.trans (hB2.mono hB.size)
    have b5 := b5.below hB2
    have b6 := b6.below hB2
    clear hB2 hs2
    have hzr := b9.range 0 lx (fun j y hy => by rw [Nat.zero_add, Hg.out j (by have := (List.getElem?_eq_some_iff.1 hy).1; rwa [Hl39.out] at this)]; exact hy)
    refine wp_go ?_
    go_wp2_with (first | refine wp_ld 59 (.tmp 15) rfl rfl rfl hzr Tryd.underlying59 rfl (by rw [Hl39.out]; exact sizeM) ?_ | (refine wp_newst 59 10 (.tmp 16) rfl rfl rfl rfl rfl rfl zeroM (l := lx) rfl (by rw [Hl39.out]; rfl) (by rw [Hl39.out]; exact sizeM) hlo.out (by simp [Act.put]) ?_; intro w3 b10 hB3 hs3; refine wp_stop ?_))
    have b9 := b9.below hB3
    have b5 := b5.below hB3
    have b6 := b6.below hB3
    have hB := hB.trans (hB3.mono hB.size)
    obtain ⟨g10, hg10⟩ : ∃ g, g = w2.heap.size := ⟨_, rfl⟩
    obtain ⟨g9, hg9⟩ : ∃ g, g = w1.heap.size := ⟨_, rfl⟩
    rw [← hg10] at b10 ⊢
    rw [← hg9] at b9 ⊢
    have c1 := b9.cellAt 39 _ Hf0.out
    have x0 := b10.cellAt 0 _ Hx0.out
    have x1 := b10.cellAt 1 _ Hx1.out
    have x2 := b10.cellAt 2 _ Hx2.out
    have x3 := b10.cellAt 3 _ Hx3.out
    have x4 := b10.cellAt 4 _ Hx4.out
    have m0 := b6.cellAt 0 _ Hm0.out
    have m2 := b6.cellAt 2 _ Hm2.out
    have m3 := b6.cellAt 3 _ Hm3.out
    have m4 := b6.cellAt 4 _ Hm4.out
    have v0 := b5.cellAt 0 _ rfl
    have xh := b10.range 5 (bvs x.h) (Hxc.out)
    have mh := b6.range 5 (bvs m.h) (Hmh.out)
    have lxh := Hxh.out
    have Lxh : Hid ((bvs x.h).length = 32) := hid (by rw [len_bvs]; exact lxh)
    have Lmh : Hid ((bvs m.h).length = 32) := hid (by rw [len_bvs]; exact hm)
    have Heq := hid (eqH17 x.h m.h lxh hm)
    clear hB3 hs3 hzr hg9 hg10 Hx0 Hx1 Hx2 Hx3 Hx4 Hm0 Hm2 Hm3 Hm4 lxh
    refine wp_go ?_
    by_cases h0 : x.v = n
    · have b0x := bneI h0
      have H0 := hid h0
      clear h0
      by_cases h1 : x.k = m.k
      · have b1x := bneI h1
        have H1 := hid h1
        clear h1
        by_cases h2 : x.v = m.v
        · have b2x := bneI h2
          have H2 := hid h2
          clear h2
          by_cases h3 : x.r = m.r
          · have b3x := bneI h3
            have H3 := hid h3
            clear h3
            by_cases h4 : x.s = m.s
            · have b4x := bneI h4
              have H4 := hid h4
              clear h4
              by_cases hh : x.h = m.h
              · have Hq := hid (Hy1.out ⟨H0.out, H1.out, H2.out, H3.out, H4.out, hh⟩)
                have heq : ∀ W : World, (Op.equalIn 10000 41 (.agg (bvs x.h).toArray) (.agg (bvs m.h).toArray)).run Tryd.prog W = .ok true W := by have := Heq.out; rw [decide_eq_true hh] at this; exact this
                clear hh Hn1 Hy1 Heq
                go_wp2_with (first | refine wp_ldg 41 (.tmp 56) (by rfl) rfl rfl xh Tryd.underlying41 rfl (by rw [Lxh.out]; exact size25) ?_ | refine wp_ldg 41 (.tmp 58) (by rfl) rfl rfl mh Tryd.underlying41 rfl (by rw [Lmh.out]; exact size25) ?_)
                go_ret
                exact ⟨by rw [Hq.out]; rfl, hB⟩
              · have Hq := hid (Hn1.out (fun h => hh h.2.2.2.2.2))
                have heq : ∀ W : World, (Op.equalIn 10000 41 (.agg (bvs x.h).toArray) (.agg (bvs m.h).toArray)).run Tryd.prog W = .ok false W := by have := Heq.out; rw [decide_eq_false hh] at this; exact this
                clear hh Hn1 Hy1 Heq
                go_wp2_with (first | refine wp_ldg 41 (.tmp 56) (by rfl) rfl rfl xh Tryd.underlying41 rfl (by rw [Lxh.out]; exact size25) ?_ | refine wp_ldg 41 (.tmp 58) (by rfl) rfl rfl mh Tryd.underlying41 rfl (by rw [Lmh.out]; exact size25) ?_)
                go_ret
                exact ⟨by rw [Hq.out]; rfl, hB⟩
            · have Hq := hid (Hn1.out (fun h => h4 h.2.2.2.2.1))
              have b4x := bneN h4
              clear h4 Hn1 Hy1 Heq
              go_wp2_with (first | refine wp_ldg 41 (.tmp 56) (by rfl) rfl rfl xh Tryd.underlying41 rfl (by rw [Lxh.out]; exact size25) ?_ | refine wp_ldg 41 (.tmp 58) (by rfl) rfl rfl mh Tryd.underlying41 rfl (by rw [Lmh.out]; exact size25) ?_)
              go_ret
              exact ⟨by rw [Hq.out]; rfl, hB⟩
          · have Hq := hid (Hn1.out (fun h => h3 h.2.2.2.1))
            have b3x := bneN h3
            clear h3 Hn1 Hy1 Heq
            go_wp2_with (first | refine wp_ldg 41 (.tmp 56) (by rfl) rfl rfl xh Tryd.underlying41 rfl (by rw [Lxh.out]; exact size25) ?_ | refine wp_ldg 41 (.tmp 58) (by rfl) rfl rfl mh Tryd.underlying41 rfl (by rw [Lmh.out]; exact size25) ?_)
            go_ret
            exact ⟨by rw [Hq.out]; rfl, hB⟩
        · have Hq := hid (Hn1.out (fun h => h2 h.2.2.1))
          have b2x := bneN h2
          clear h2 Hn1 Hy1 Heq
          go_wp2_with (first | refine wp_ldg 41 (.tmp 56) (by rfl) rfl rfl xh Tryd.underlying41 rfl (by rw [Lxh.out]; exact size25) ?_ | refine wp_ldg 41 (.tmp 58) (by rfl) rfl rfl mh Tryd.underlying41 rfl (by rw [Lmh.out]; exact size25) ?_)
          go_ret
          exact ⟨by rw [Hq.out]; rfl, hB⟩
      · have Hq := hid (Hn1.out (fun h => h1 h.2.1))
        have b1x := bneN h1
        clear h1 Hn1 Hy1 Heq
        go_wp2_with (first | refine wp_ldg 41 (.tmp 56) (by rfl) rfl rfl xh Tryd.underlying41 rfl (by rw [Lxh.out]; exact size25) ?_ | refine wp_ldg 41 (.tmp 58) (by rfl) rfl rfl mh Tryd.underlying41 rfl (by rw [Lmh.out]; exact size25) ?_)
        go_ret
        exact ⟨by rw [Hq.out]; rfl, hB⟩
    · have Hq := hid (Hn1.out (fun h => h0 h.1))
      have b0x := bneN h0
      clear h0 Hn1 Hy1 Heq
      go_wp2_with (first | refine wp_ldg 41 (.tmp 56) (by rfl) rfl rfl xh Tryd.underlying41 rfl (by rw [Lxh.out]; exact size25) ?_ | refine wp_ldg 41 (.tmp 58) (by rfl) rfl rfl mh Tryd.underlying41 rfl (by rw [Lmh.out]; exact size25) ?_)
      go_ret
      exact ⟨by rw [Hq.out]; rfl, hB⟩
end Go.Proofs.YthbbpfnfnnmdnaaDoor
