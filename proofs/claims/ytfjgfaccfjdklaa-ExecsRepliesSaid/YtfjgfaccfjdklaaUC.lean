/- UC: layer 14: contracts of kv over the landed code: Do, Put. -/
import Derived.Test.YtfjgfaccfjdklaaUD
import Derived.Test.YtfjgfaccfjdklaaR2
import Derived.Test.YtfjgfaccfjdklaaN3
namespace Go.Proofs.Ytfjgfaccfjdklaa
open Go.RowKit Go.V
theorem do_pure (c : List Cl) (o : Ok) (hc : ClIn c) (h0 : 0 ≤ o.y) (h1 : o.y ≤ 15) (x : Cl) (hx : (stF c)[o.y.toNat]? = some x) :
    nmF ((stF c).set o.y.toNat (dnC x o).1) = (doK (nmF c) o).1 ∧ (dnC x o).2 = (doK (nmF c) o).2 := by
  have hz := st_zero (List.mem_of_getElem? hx)
  have hg := nmF_at hx
  rw [nm_st] at hg
  rw [nm_set, nm_st]
  unfold doK
  by_cases hk : goodK o
  · obtain ⟨e1, e2⟩ := dn_good x o hz hk
    rw [if_pos hk, hg]
    exact ⟨by rw [e1], e2⟩
  · rw [if_neg hk, dn_bad x o (fun h => hk ⟨⟨h0, h1⟩, h⟩)]
    refine ⟨?_, rfl⟩
    show (nmF c).set o.y.toNat (nmC x) = nmF c
    rw [← hg]
    exact set_same (by unfold nmF; rw [List.length_map, hc.len]; omega)
theorem dn_zero {x : Cl} {o : Ok} (hx : x.t = false → x.n = 0) : (dnC x o).1.t = false → (dnC x o).1.n = 0 := by
  unfold dnC
  split
  · exact hx
  · split
    · intro h; cases h
    · split
      · intro h; cases h
      · split
        · split
          · intro h; cases h
          · exact hx
        · split
          · intro _; rfl
          · exact hx
theorem set_zero {c : List Cl} (h : ∀ y ∈ c, y.t = false → y.n = 0) (i : Nat) {x : Cl} (hx : x.t = false → x.n = 0) : ∀ y ∈ c.set i x, y.t = false → y.n = 0 := by
  intro y hy
  rcases List.mem_or_eq_of_mem_set hy with hy | rfl
  · exact h y hy
  · exact hx
set_option maxRecDepth 100000 in
set_option maxHeartbeats 8000000 in
theorem kvdo15_any (c : List Cl) (o : Ok) (w : World) (hc : ClIn c) (ho : OkIn o) :
    Calls Try.prog 13 #[.agg (cvs c).toArray, .agg o.l.toArray] w fun e w' => ∃ c', e = .returned (.tuple #[.agg (cvs c').toArray, .agg (rvs (doK (nmF c) o).2).toArray]) ∧ ClIn c' ∧ nmF c' = (doK (nmF c) o).1 ∧ (∀ x ∈ c', x.t = false → x.n = 0) ∧ Below w.heap.size w w' := by
  have hdp := hid (do_pure c o hc)
  have hbad : Hid (¬ (0 ≤ o.y ∧ o.y ≤ 15) → doK (nmF c) o = (nmF c, (false, 0))) := fun h => if_neg (fun h' => h h'.1)
  obtain ⟨D, hD⟩ : ∃ D, D = doK (nmF c) o := ⟨_, rfl⟩
  rw [← hD] at hdp hbad ⊢
  clear hD
  have Lc := hid (show (cvs c).length = 32 by rw [len_cvs, hc.len])
  have Ls := hid (show (cvs (stF c)).length = 32 by rw [len_cvs, (st_in hc).len])
  have Hset := hid (fun X => settled14_any c X hc)
  have Hin := hid (st_in hc)
  have Hnm := hid (nm_st c)
  have hsl : (stF c).length = 16 := (st_in hc).len
  have hse := hid (cvs_at (stF c))
  have hss := hid (fun i y => cvs_set (stF c) i y)
  have hsin := hid (fun (y : Cl) (hy : y ∈ stF c) => (st_in hc).n y hy)
  have Hz := hid (fun (y : Cl) (hy : y ∈ stF c) => st_zero hy)
  obtain ⟨sc, hsc⟩ : ∃ s, s = stF c := ⟨_, rfl⟩
  rw [← hsc] at hdp Ls Hset Hin Hnm hsl hse hss hsin Hz
  clear hsc hc
  obtain ⟨W, hW, b2, b3, b4, b5, hB⟩ := alloc4 w 31 44 31 33 (cvs c) o.l zCs (rvs (false, 0))
  have b4 : Blk W (w.heap.size + 1 + 1) 31 zCs := b4
  have b5 : Blk W (w.heap.size + 1 + 1 + 1) 33 (rvs (false, 0)) := b5
  obtain ⟨cc, hcc⟩ : ∃ q, q = cvs c := ⟨_, rfl⟩
  rw [← hcc] at hW b2 Lc Hset ⊢
  clear hcc
  obtain ⟨cs, hcs⟩ : ∃ q, q = cvs sc := ⟨_, rfl⟩
  rw [← hcs] at Ls Hset hse hss
  have Hcs := hid hcs
  have Hco := hid (show ∀ v ∈ cs, v.oneCell' = true by rw [hcs]; exact one_cvs _)
  clear hcs
  obtain ⟨k, y, a, b⟩ := o
  obtain ⟨hik, hiy, hia, hib⟩ := ho
  dsimp only at hik hiy hia hib hdp hbad
  go_enter Try.func13, Try.ntmps13
  go_wp2_with (first | (refine wp_new 31 rfl rfl zeroCs ?_; refine wp_new 33 rfl rfl zeroRs ?_; refine wp_stop ?_))
  rw [← hW]
  clear hW
  obtain ⟨g5, hg5⟩ : ∃ g, g = w.heap.size + 1 + 1 + 1 := ⟨_, rfl⟩
  rw [← hg5] at b5 ⊢
  obtain ⟨g4, hg4⟩ : ∃ g, g = w.heap.size + 1 + 1 := ⟨_, rfl⟩
  rw [← hg4] at b4 ⊢
  obtain ⟨g3, hg3⟩ : ∃ g, g = w.heap.size + 1 := ⟨_, rfl⟩
  rw [← hg3] at b3 ⊢
  obtain ⟨g2, hg2⟩ : ∃ g, g = w.heap.size := ⟨_, rfl⟩
  rw [← hg2] at b2 ⊢
  have hw2 : w.heap.size ≤ g2 := by omega
  have h23 : g2 < g3 := by omega
  have h34 : g3 < g4 := by omega
  have h45 : g4 < g5 := by omega
  clear hg2 hg3 hg4 hg5
  refine wp_go ?_
  go_wp2_with (refine wp_ld 31 (.tmp 2) rfl rfl rfl b2.whole Try.underlying31 rfl (by rw [Lc.out]; exact sizeCs) ?_)
  refine (Hset.out _).mono ?_
  rintro e w1 ⟨rfl, hB1⟩
  have b2 := b2.below hB1
  have b3 := b3.below hB1
  have b4 := b4.below hB1
  have b5 := b5.below hB1
  have hB := hB.trans (hB1.mono hB.size)
  go_wp2_with (refine wp_st 31 (.tmp 2) (.tmp 9) rfl rfl rfl (f := 0) rfl (l := cs) rfl b2 (by rw [Ls.out, Lc.out]; omega) (by rw [Ls.out]; exact sizeCs) Hco.out ?_; intro w2 k2 G2; refine wp_stop ?_)
  have b2 := blk_all k2 (by rw [Ls.out, Lc.out]; omega)
  have b3 := b3.keep (G2.block _ b3.lt (by intro e; injection e with e; omega))
  have b4 := b4.keep (G2.block _ b4.lt (by intro e; injection e with e; omega))
  have b5 := b5.keep (G2.block _ b5.lt (by intro e; injection e with e; omega))
  have hB := hB.grown G2 hB.size (by intro k hk; injection hk with hk; omega)
  clear k2 G2 hB1 Hset Lc
  have d1 := b3.cellAt 1 _ rfl
  refine wp_go ?_
  go_wp2_with (fail)
  refine (isKey14_any y _).mono ?_
  rintro e w3 ⟨rfl, hB3⟩
  have b2 := b2.below hB3
  have b3 := b3.below hB3
  have b4 := b4.below hB3
  have b5 := b5.below hB3
  have hB := hB.trans (hB3.mono hB.size)
  clear hB3 d1
  by_cases hy : 0 ≤ y ∧ y ≤ 15
  · have hdt : decide (0 ≤ y ∧ y ≤ 15) = true := decide_eq_true hy
    rw [hdt]
    clear hdt hbad
    obtain ⟨hy0, hy1⟩ := hy
    have hdp := hid (fun x => hdp.out hy0 hy1 x)
    obtain ⟨i, rfl⟩ : ∃ i : Nat, y = (i : Int) := ⟨y.toNat, by omega⟩
    have hi : i < 16 := by omega
    rw [Int.toNat_natCast] at hdp
    clear hy0 hy1
    obtain ⟨x, hx⟩ : ∃ x, sc[i]? = some x := ⟨_, List.getElem?_eq_getElem (by omega)⟩
    have hdp := hdp.out x hx
    have hdi := dn_in (x := x) (o := ⟨k, i, a, b⟩) (hsin.out x (List.mem_of_getElem? hx)) ⟨hik, hiy, hia, hib⟩
    obtain ⟨e1, e2⟩ := hse.out i x hx
    have hdn := hid (fun X => done14_any x ⟨k, i, a, b⟩ X)
    have hdz := dn_zero (x := x) (o := ⟨k, i, a, b⟩) (Hz.out x (List.mem_of_getElem? hx))
    obtain ⟨R, hR⟩ : ∃ R, R = dnC x ⟨k, i, a, b⟩ := ⟨_, rfl⟩
    rw [← hR] at hdp hdi hdn hdz
    clear hR
    obtain ⟨x', r⟩ := R
    have Hp1 := hid hdp.1
    have Hp2 : Hid (r = D.2) := hdp.2
    have Hdi := hid hdi
    have Hdz : Hid (x'.t = false → x'.n = 0) := hid hdz
    clear hdz
    dsimp only at hdn
    clear hdi hx hdp
    have hr2 : ∀ Z, Ch nob w3 Z → Z.rangeAt g2 (0 + i * 2) x.l := fun Z h => (b2.ch h (fun e => e)).range (0 + i * 2) _ (fun j v hv => by
      rw [Nat.zero_add]
      match j with
      | 0 => simp [Cl.l] at hv; subst hv; rw [Nat.mul_comm]; exact e1
      | 1 => simp [Cl.l] at hv; subst hv; rw [Nat.mul_comm]; exact e2
      | j + 2 => simp [Cl.l] at hv)
    have X2 := hid hr2
    have X3 := hid (fun Z (h : Ch nob w3 Z) => (b3.ch h (fun e => e)).whole)
    have X31 := hid (fun Z (h : Ch nob w3 Z) => (b3.ch h (fun e => e)).cellAt 1 (.int .i64 (i : Int)) rfl)
    clear hr2 e1 e2
    go_upto_region 4 with (fail)
    go_cut [6, 7] (fun s6 s7 wx => ∃ g6 g7, s6 = .pointer (some ⟨g6, 0, none⟩) ∧ s7 = .pointer (some ⟨g7, 0, none⟩) ∧ w3.heap.size ≤ g6 ∧ w3.heap.size ≤ g7 ∧ Blk wx g6 30 x'.l ∧ Blk wx g7 33 (rvs r) ∧ Ch nob w3 wx)
    case first =>
      refine wp_region_noPanic ?_
      refine wp_region_held_drew (S := Ch nob w3) (by kernel_rfl) ((Ch.refl _ _).drew) (fun hHeld => ?_)
      refine wpAnyH_take (i := 0) (oi := ⟨some 17, _, _, _, _, none⟩) (v := ?_) rfl (by kernel_rfl) (by kernel_rfl) (by kernel_rfl) (fun _ _ _ h => h) (Or.inl ⟨by rfl, ?_⟩) (by assumption) ?_
      rotate_left
      · intro w hSw; go_simp; try with_reducible rfl
      try simp only [Act.put, List.setIfInBounds_toArray, List.set_cons_zero, List.set_cons_succ]
      refine wpAnyH_take (i := 1) (oi := ⟨some 18, _, _, _, _, none⟩) (v := ?_) rfl (by kernel_rfl) (by kernel_rfl) (by kernel_rfl) (fun _ _ _ h => h) (Or.inl ⟨by rfl, ?_⟩) (by assumption) ?_
      rotate_left
      · intro w hSw; have hcw := X31.out w hSw; go_simp; try with_reducible rfl
      try simp only [Act.put, List.setIfInBounds_toArray, List.set_cons_zero, List.set_cons_succ]
      refine wpAnyH_take (i := 2) (oi := ⟨some 19, _, _, _, _, none⟩) (v := _) rfl (by kernel_rfl) (by kernel_rfl) (by kernel_rfl) (fun _ _ _ h => h) (yi_ixp (by rfl) 31 (.tmp 2) (.tmp 18) (by rfl) (by rfl) (i := i) (by rfl) Try.underlying31 hi sizeCl) (by assumption) ?_
      try simp only [Act.put, List.setIfInBounds_toArray, List.set_cons_zero, List.set_cons_succ]
      refine wpAnyH_take (i := 3) (oi := ⟨some 20, .load 30 (.tmp 19), _, _, _, none⟩) (v := _) rfl (by kernel_rfl) (by kernel_rfl) (by kernel_rfl) (fun _ _ _ h => h) (yieldsIf_load_mid (by rfl) 30 (.tmp 19) (by rfl) _ (0 + i * 2) (by rfl) _ _ (fun _ hs => X2.out _ hs) Try.underlying30 rfl (sizeCl)) (by assumption) ?_
      try simp only [Act.put, List.setIfInBounds_toArray, List.set_cons_zero, List.set_cons_succ]
      refine wpAnyH_take (i := 4) (oi := ⟨some 21, .load 44 (.tmp 3), _, _, _, none⟩) (v := _) rfl (by kernel_rfl) (by kernel_rfl) (by kernel_rfl) (fun _ _ _ h => h) (yieldsIf_load_mid (by rfl) 44 (.tmp 3) (by rfl) _ (0) (by rfl) _ _ (fun _ hs => X3.out _ hs) Try.underlying44 rfl (sizeOk)) (by assumption) ?_
      try simp only [Act.put, List.setIfInBounds_toArray, List.set_cons_zero, List.set_cons_succ]
      refine wpAnyH_ready (rs := [5, 9, 10]) (by kernel_rfl) (by simp) ?_
      refine AllReadyH.cons (o := ⟨some 22, _, _, _, _, none⟩) rfl (fun K hK => ?_) ?_
      · go_simp
        refine (hdn.out _).mono ?_
        rintro e' w7 ⟨rfl, hB7⟩
        refine hK.out _ _ (hHeld.belowR hB7) (fun hHeld => ?_)
        clear hK K
        try simp only [Act.put, List.setIfInBounds_toArray, List.set_cons_zero, List.set_cons_succ]
        refine wpAnyH_take (i := 6) (oi := ⟨some 16, _, _, _, _, none⟩) (v := ?_) rfl (by kernel_rfl) (by kernel_rfl) (by kernel_rfl) (fun _ _ _ h => h) (Or.inl ⟨by rfl, ?_⟩) (by assumption) ?_
        rotate_left
        · intro w hSw; go_simp; try with_reducible rfl
        try simp only [Act.put, List.setIfInBounds_toArray, List.set_cons_zero, List.set_cons_succ]
        refine wpAnyH_take (i := 7) (oi := ⟨some 23, _, _, _, _, none⟩) (v := ?_) rfl (by kernel_rfl) (by kernel_rfl) (by kernel_rfl) (fun _ _ _ h => h) (Or.inl ⟨by rfl, ?_⟩) (by assumption) ?_
        rotate_left
        · intro w hSw; go_simp; try with_reducible rfl
        try simp only [Act.put, List.setIfInBounds_toArray, List.set_cons_zero, List.set_cons_succ]
        refine wpAnyH_take (i := 8) (oi := ⟨some 24, _, _, _, _, none⟩) (v := ?_) rfl (by kernel_rfl) (by kernel_rfl) (by kernel_rfl) (fun _ _ _ h => h) (Or.inl ⟨by rfl, ?_⟩) (by assumption) ?_
        rotate_left
        · intro w hSw; go_simp; try with_reducible rfl
        try simp only [Act.put, List.setIfInBounds_toArray, List.set_cons_zero, List.set_cons_succ]
        refine wpAnyH_ready (rs := [9, 10]) (by kernel_rfl) (by simp) ?_
        refine AllReadyH.cons (o := ⟨some 6, .alloc _, _, _, _, none⟩) rfl (fun K hK => ?_) ?_
        · refine step_new 30 (by rfl) (by rfl) zeroCl ?_
          intro g6 w9 hg6 hgl6 z6 hB9
          have hg6 : w3.heap.size ≤ g6 := Nat.le_trans hHeld.size hg6
          refine hK.out _ _ (hHeld.belowR hB9) (fun hHeld => ?_)
          clear hK K
          try simp only [Act.put, List.setIfInBounds_toArray, List.set_cons_zero, List.set_cons_succ]
          refine wpAnyH_ready (rs := [10]) (by kernel_rfl) (by simp) ?_
          refine AllReadyH.cons (o := ⟨some 7, .alloc _, _, _, _, none⟩) rfl (fun K hK => ?_) AllReadyH.nil
          refine step_new 33 (by rfl) (by rfl) zeroRs ?_
          intro g7 w10 hg7 hgl7 z7 hB10
          have hne : g6 ≠ g7 := fun e => by have := z6.lt; omega
          have z6 := z6.below hB10
          have hg7 : w3.heap.size ≤ g7 := Nat.le_trans hHeld.size hg7
          refine hK.out _ _ (hHeld.belowR hB10) (fun hHeld => ?_)
          clear hK K
          try simp only [Act.put, List.setIfInBounds_toArray, List.set_cons_zero, List.set_cons_succ]
          refine wpAnyH_ready (rs := [11]) (by kernel_rfl) (by simp) ?_
          refine AllReadyH.cons (o := ⟨none, _, _, _, _, none⟩) rfl (fun K hK => ?_) AllReadyH.nil
          refine step_st 30 (.tmp 6) (.tmp 23) (by rfl) (by rfl) (by rfl) (f := 0) (by rfl) (l := x'.l) (by rfl) z6 (by show 0 + 2 ≤ 2; omega) sizeCl (one_cl _) ?_
          intro w11 k6 G6
          have k6 := blk_all k6 (by show 2 ≤ 2; omega)
          have z7 := z7.keep (G6.block _ z7.lt (by intro e; injection e with e; exact hne e.symm))
          refine hK.out _ _ (hHeld.grow G6 (fun k hk => .inr (by injection hk with hk; omega))) (fun hHeld => ?_)
          clear hK K
          try simp only [Act.put, List.setIfInBounds_toArray, List.set_cons_zero, List.set_cons_succ]
          refine wpAnyH_ready (rs := [12]) (by kernel_rfl) (by simp) ?_
          refine AllReadyH.cons (o := ⟨none, _, _, _, _, none⟩) rfl (fun K hK => ?_) AllReadyH.nil
          refine step_st 33 (.tmp 7) (.tmp 24) (by rfl) (by rfl) (by rfl) (f := 0) (by rfl) (l := rvs r) (by rfl) z7 (by show 0 + 2 ≤ 2; omega) sizeRs (one_rvs _) ?_
          intro w12 k7 G7
          have k7 := blk_all k7 (by show 2 ≤ 2; omega)
          have k6 := k6.keep (G7.block _ k6.lt (by intro e; injection e with e; exact hne e))
          refine hK.out _ _ (hHeld.grow G7 (fun k hk => .inr (by injection hk with hk; omega))) (fun hHeld => ?_)
          clear hK K
          try simp only [Act.put, List.setIfInBounds_toArray, List.set_cons_zero, List.set_cons_succ]
          refine wpAnyH_done (by kernel_rfl) ?_ _
          refine NoPanic.normal ?_
          go_wp2
          go_meet
          exact ⟨g6, g7, rfl, rfl, hg6, hg7, k6, k7, hHeld⟩
        refine AllReadyH.cons (o := ⟨some 7, .alloc _, _, _, _, none⟩) rfl (fun K hK => ?_) AllReadyH.nil
        refine step_new 33 (by rfl) (by rfl) zeroRs ?_
        intro g7 w10 hg7 hgl7 z7 hB10
        have hg7 : w3.heap.size ≤ g7 := Nat.le_trans hHeld.size hg7
        refine hK.out _ _ (hHeld.belowR hB10) (fun hHeld => ?_)
        clear hK K
        try simp only [Act.put, List.setIfInBounds_toArray, List.set_cons_zero, List.set_cons_succ]
        refine wpAnyH_ready (rs := [9]) (by kernel_rfl) (by simp) ?_
        refine AllReadyH.cons (o := ⟨some 6, .alloc _, _, _, _, none⟩) rfl (fun K hK => ?_) AllReadyH.nil
        refine step_new 30 (by rfl) (by rfl) zeroCl ?_
        intro g6 w9 hg6 hgl6 z6 hB9
        have hne : g6 ≠ g7 := fun e => by have := z7.lt; omega
        have z7 := z7.below hB9
        have hg6 : w3.heap.size ≤ g6 := Nat.le_trans hHeld.size hg6
        refine hK.out _ _ (hHeld.belowR hB9) (fun hHeld => ?_)
        clear hK K
        try simp only [Act.put, List.setIfInBounds_toArray, List.set_cons_zero, List.set_cons_succ]
        refine wpAnyH_ready (rs := [11]) (by kernel_rfl) (by simp) ?_
        refine AllReadyH.cons (o := ⟨none, _, _, _, _, none⟩) rfl (fun K hK => ?_) AllReadyH.nil
        refine step_st 30 (.tmp 6) (.tmp 23) (by rfl) (by rfl) (by rfl) (f := 0) (by rfl) (l := x'.l) (by rfl) z6 (by show 0 + 2 ≤ 2; omega) sizeCl (one_cl _) ?_
        intro w11 k6 G6
        have k6 := blk_all k6 (by show 2 ≤ 2; omega)
        have z7 := z7.keep (G6.block _ z7.lt (by intro e; injection e with e; exact hne e.symm))
        refine hK.out _ _ (hHeld.grow G6 (fun k hk => .inr (by injection hk with hk; omega))) (fun hHeld => ?_)
        clear hK K
        try simp only [Act.put, List.setIfInBounds_toArray, List.set_cons_zero, List.set_cons_succ]
        refine wpAnyH_ready (rs := [12]) (by kernel_rfl) (by simp) ?_
        refine AllReadyH.cons (o := ⟨none, _, _, _, _, none⟩) rfl (fun K hK => ?_) AllReadyH.nil
        refine step_st 33 (.tmp 7) (.tmp 24) (by rfl) (by rfl) (by rfl) (f := 0) (by rfl) (l := rvs r) (by rfl) z7 (by show 0 + 2 ≤ 2; omega) sizeRs (one_rvs _) ?_
        intro w12 k7 G7
        have k7 := blk_all k7 (by show 2 ≤ 2; omega)
        have k6 := k6.keep (G7.block _ k6.lt (by intro e; injection e with e; exact hne e))
        refine hK.out _ _ (hHeld.grow G7 (fun k hk => .inr (by injection hk with hk; omega))) (fun hHeld => ?_)
        clear hK K
        try simp only [Act.put, List.setIfInBounds_toArray, List.set_cons_zero, List.set_cons_succ]
        refine wpAnyH_done (by kernel_rfl) ?_ _
        refine NoPanic.normal ?_
        go_wp2
        go_meet
        exact ⟨g6, g7, rfl, rfl, hg6, hg7, k6, k7, hHeld⟩
      refine AllReadyH.cons (o := ⟨some 6, .alloc _, _, _, _, none⟩) rfl (fun K hK => ?_) ?_
      · refine step_new 30 (by rfl) (by rfl) zeroCl ?_
        intro g6 w9 hg6 hgl6 z6 hB9
        have hg6 : w3.heap.size ≤ g6 := Nat.le_trans hHeld.size hg6
        refine hK.out _ _ (hHeld.belowR hB9) (fun hHeld => ?_)
        clear hK K
        try simp only [Act.put, List.setIfInBounds_toArray, List.set_cons_zero, List.set_cons_succ]
        refine wpAnyH_ready (rs := [5, 10]) (by kernel_rfl) (by simp) ?_
        refine AllReadyH.cons (o := ⟨some 22, _, _, _, _, none⟩) rfl (fun K hK => ?_) ?_
        · go_simp
          refine (hdn.out _).mono ?_
          rintro e' w7 ⟨rfl, hB7⟩
          have z6 := z6.below hB7
          refine hK.out _ _ (hHeld.belowR hB7) (fun hHeld => ?_)
          clear hK K
          try simp only [Act.put, List.setIfInBounds_toArray, List.set_cons_zero, List.set_cons_succ]
          refine wpAnyH_take (i := 6) (oi := ⟨some 16, _, _, _, _, none⟩) (v := ?_) rfl (by kernel_rfl) (by kernel_rfl) (by kernel_rfl) (fun _ _ _ h => h) (Or.inl ⟨by rfl, ?_⟩) (by assumption) ?_
          rotate_left
          · intro w hSw; go_simp; try with_reducible rfl
          try simp only [Act.put, List.setIfInBounds_toArray, List.set_cons_zero, List.set_cons_succ]
          refine wpAnyH_take (i := 7) (oi := ⟨some 23, _, _, _, _, none⟩) (v := ?_) rfl (by kernel_rfl) (by kernel_rfl) (by kernel_rfl) (fun _ _ _ h => h) (Or.inl ⟨by rfl, ?_⟩) (by assumption) ?_
          rotate_left
          · intro w hSw; go_simp; try with_reducible rfl
          try simp only [Act.put, List.setIfInBounds_toArray, List.set_cons_zero, List.set_cons_succ]
          refine wpAnyH_take (i := 8) (oi := ⟨some 24, _, _, _, _, none⟩) (v := ?_) rfl (by kernel_rfl) (by kernel_rfl) (by kernel_rfl) (fun _ _ _ h => h) (Or.inl ⟨by rfl, ?_⟩) (by assumption) ?_
          rotate_left
          · intro w hSw; go_simp; try with_reducible rfl
          try simp only [Act.put, List.setIfInBounds_toArray, List.set_cons_zero, List.set_cons_succ]
          refine wpAnyH_ready (rs := [10]) (by kernel_rfl) (by simp) ?_
          refine AllReadyH.cons (o := ⟨some 7, .alloc _, _, _, _, none⟩) rfl (fun K hK => ?_) AllReadyH.nil
          refine step_new 33 (by rfl) (by rfl) zeroRs ?_
          intro g7 w10 hg7 hgl7 z7 hB10
          have hne : g6 ≠ g7 := fun e => by have := z6.lt; omega
          have z6 := z6.below hB10
          have hg7 : w3.heap.size ≤ g7 := Nat.le_trans hHeld.size hg7
          refine hK.out _ _ (hHeld.belowR hB10) (fun hHeld => ?_)
          clear hK K
          try simp only [Act.put, List.setIfInBounds_toArray, List.set_cons_zero, List.set_cons_succ]
          refine wpAnyH_ready (rs := [11]) (by kernel_rfl) (by simp) ?_
          refine AllReadyH.cons (o := ⟨none, _, _, _, _, none⟩) rfl (fun K hK => ?_) AllReadyH.nil
          refine step_st 30 (.tmp 6) (.tmp 23) (by rfl) (by rfl) (by rfl) (f := 0) (by rfl) (l := x'.l) (by rfl) z6 (by show 0 + 2 ≤ 2; omega) sizeCl (one_cl _) ?_
          intro w11 k6 G6
          have k6 := blk_all k6 (by show 2 ≤ 2; omega)
          have z7 := z7.keep (G6.block _ z7.lt (by intro e; injection e with e; exact hne e.symm))
          refine hK.out _ _ (hHeld.grow G6 (fun k hk => .inr (by injection hk with hk; omega))) (fun hHeld => ?_)
          clear hK K
          try simp only [Act.put, List.setIfInBounds_toArray, List.set_cons_zero, List.set_cons_succ]
          refine wpAnyH_ready (rs := [12]) (by kernel_rfl) (by simp) ?_
          refine AllReadyH.cons (o := ⟨none, _, _, _, _, none⟩) rfl (fun K hK => ?_) AllReadyH.nil
          refine step_st 33 (.tmp 7) (.tmp 24) (by rfl) (by rfl) (by rfl) (f := 0) (by rfl) (l := rvs r) (by rfl) z7 (by show 0 + 2 ≤ 2; omega) sizeRs (one_rvs _) ?_
          intro w12 k7 G7
          have k7 := blk_all k7 (by show 2 ≤ 2; omega)
          have k6 := k6.keep (G7.block _ k6.lt (by intro e; injection e with e; exact hne e))
          refine hK.out _ _ (hHeld.grow G7 (fun k hk => .inr (by injection hk with hk; omega))) (fun hHeld => ?_)
          clear hK K
          try simp only [Act.put, List.setIfInBounds_toArray, List.set_cons_zero, List.set_cons_succ]
          refine wpAnyH_done (by kernel_rfl) ?_ _
          refine NoPanic.normal ?_
          go_wp2
          go_meet
          exact ⟨g6, g7, rfl, rfl, hg6, hg7, k6, k7, hHeld⟩
        refine AllReadyH.cons (o := ⟨some 7, .alloc _, _, _, _, none⟩) rfl (fun K hK => ?_) AllReadyH.nil
        refine step_new 33 (by rfl) (by rfl) zeroRs ?_
        intro g7 w10 hg7 hgl7 z7 hB10
        have hne : g6 ≠ g7 := fun e => by have := z6.lt; omega
        have z6 := z6.below hB10
        have hg7 : w3.heap.size ≤ g7 := Nat.le_trans hHeld.size hg7
        refine hK.out _ _ (hHeld.belowR hB10) (fun hHeld => ?_)
        clear hK K
        try simp only [Act.put, List.setIfInBounds_toArray, List.set_cons_zero, List.set_cons_succ]
        refine wpAnyH_ready (rs := [5]) (by kernel_rfl) (by simp) ?_
        refine AllReadyH.cons (o := ⟨some 22, _, _, _, _, none⟩) rfl (fun K hK => ?_) AllReadyH.nil
        go_simp
        refine (hdn.out _).mono ?_
        rintro e' w7 ⟨rfl, hB7⟩
        have z6 := z6.below hB7
        have z7 := z7.below hB7
        refine hK.out _ _ (hHeld.belowR hB7) (fun hHeld => ?_)
        clear hK K
        try simp only [Act.put, List.setIfInBounds_toArray, List.set_cons_zero, List.set_cons_succ]
        refine wpAnyH_take (i := 6) (oi := ⟨some 16, _, _, _, _, none⟩) (v := ?_) rfl (by kernel_rfl) (by kernel_rfl) (by kernel_rfl) (fun _ _ _ h => h) (Or.inl ⟨by rfl, ?_⟩) (by assumption) ?_
        rotate_left
        · intro w hSw; go_simp; try with_reducible rfl
        try simp only [Act.put, List.setIfInBounds_toArray, List.set_cons_zero, List.set_cons_succ]
        refine wpAnyH_take (i := 7) (oi := ⟨some 23, _, _, _, _, none⟩) (v := ?_) rfl (by kernel_rfl) (by kernel_rfl) (by kernel_rfl) (fun _ _ _ h => h) (Or.inl ⟨by rfl, ?_⟩) (by assumption) ?_
        rotate_left
        · intro w hSw; go_simp; try with_reducible rfl
        try simp only [Act.put, List.setIfInBounds_toArray, List.set_cons_zero, List.set_cons_succ]
        refine wpAnyH_take (i := 8) (oi := ⟨some 24, _, _, _, _, none⟩) (v := ?_) rfl (by kernel_rfl) (by kernel_rfl) (by kernel_rfl) (fun _ _ _ h => h) (Or.inl ⟨by rfl, ?_⟩) (by assumption) ?_
        rotate_left
        · intro w hSw; go_simp; try with_reducible rfl
        try simp only [Act.put, List.setIfInBounds_toArray, List.set_cons_zero, List.set_cons_succ]
        refine wpAnyH_ready (rs := [11]) (by kernel_rfl) (by simp) ?_
        refine AllReadyH.cons (o := ⟨none, _, _, _, _, none⟩) rfl (fun K hK => ?_) AllReadyH.nil
        refine step_st 30 (.tmp 6) (.tmp 23) (by rfl) (by rfl) (by rfl) (f := 0) (by rfl) (l := x'.l) (by rfl) z6 (by show 0 + 2 ≤ 2; omega) sizeCl (one_cl _) ?_
        intro w11 k6 G6
        have k6 := blk_all k6 (by show 2 ≤ 2; omega)
        have z7 := z7.keep (G6.block _ z7.lt (by intro e; injection e with e; exact hne e.symm))
        refine hK.out _ _ (hHeld.grow G6 (fun k hk => .inr (by injection hk with hk; omega))) (fun hHeld => ?_)
        clear hK K
        try simp only [Act.put, List.setIfInBounds_toArray, List.set_cons_zero, List.set_cons_succ]
        refine wpAnyH_ready (rs := [12]) (by kernel_rfl) (by simp) ?_
        refine AllReadyH.cons (o := ⟨none, _, _, _, _, none⟩) rfl (fun K hK => ?_) AllReadyH.nil
        refine step_st 33 (.tmp 7) (.tmp 24) (by rfl) (by rfl) (by rfl) (f := 0) (by rfl) (l := rvs r) (by rfl) z7 (by show 0 + 2 ≤ 2; omega) sizeRs (one_rvs _) ?_
        intro w12 k7 G7
        have k7 := blk_all k7 (by show 2 ≤ 2; omega)
        have k6 := k6.keep (G7.block _ k6.lt (by intro e; injection e with e; exact hne e))
        refine hK.out _ _ (hHeld.grow G7 (fun k hk => .inr (by injection hk with hk; omega))) (fun hHeld => ?_)
        clear hK K
        try simp only [Act.put, List.setIfInBounds_toArray, List.set_cons_zero, List.set_cons_succ]
        refine wpAnyH_done (by kernel_rfl) ?_ _
        refine NoPanic.normal ?_
        go_wp2
        go_meet
        exact ⟨g6, g7, rfl, rfl, hg6, hg7, k6, k7, hHeld⟩
      refine AllReadyH.cons (o := ⟨some 7, .alloc _, _, _, _, none⟩) rfl (fun K hK => ?_) AllReadyH.nil
      refine step_new 33 (by rfl) (by rfl) zeroRs ?_
      intro g7 w10 hg7 hgl7 z7 hB10
      have hg7 : w3.heap.size ≤ g7 := Nat.le_trans hHeld.size hg7
      refine hK.out _ _ (hHeld.belowR hB10) (fun hHeld => ?_)
      clear hK K
      try simp only [Act.put, List.setIfInBounds_toArray, List.set_cons_zero, List.set_cons_succ]
      refine wpAnyH_ready (rs := [5, 9]) (by kernel_rfl) (by simp) ?_
      refine AllReadyH.cons (o := ⟨some 22, _, _, _, _, none⟩) rfl (fun K hK => ?_) ?_
      · go_simp
        refine (hdn.out _).mono ?_
        rintro e' w7 ⟨rfl, hB7⟩
        have z7 := z7.below hB7
        refine hK.out _ _ (hHeld.belowR hB7) (fun hHeld => ?_)
        clear hK K
        try simp only [Act.put, List.setIfInBounds_toArray, List.set_cons_zero, List.set_cons_succ]
        refine wpAnyH_take (i := 6) (oi := ⟨some 16, _, _, _, _, none⟩) (v := ?_) rfl (by kernel_rfl) (by kernel_rfl) (by kernel_rfl) (fun _ _ _ h => h) (Or.inl ⟨by rfl, ?_⟩) (by assumption) ?_
        rotate_left
        · intro w hSw; go_simp; try with_reducible rfl
        try simp only [Act.put, List.setIfInBounds_toArray, List.set_cons_zero, List.set_cons_succ]
        refine wpAnyH_take (i := 7) (oi := ⟨some 23, _, _, _, _, none⟩) (v := ?_) rfl (by kernel_rfl) (by kernel_rfl) (by kernel_rfl) (fun _ _ _ h => h) (Or.inl ⟨by rfl, ?_⟩) (by assumption) ?_
        rotate_left
        · intro w hSw; go_simp; try with_reducible rfl
        try simp only [Act.put, List.setIfInBounds_toArray, List.set_cons_zero, List.set_cons_succ]
        refine wpAnyH_take (i := 8) (oi := ⟨some 24, _, _, _, _, none⟩) (v := ?_) rfl (by kernel_rfl) (by kernel_rfl) (by kernel_rfl) (fun _ _ _ h => h) (Or.inl ⟨by rfl, ?_⟩) (by assumption) ?_
        rotate_left
        · intro w hSw; go_simp; try with_reducible rfl
        try simp only [Act.put, List.setIfInBounds_toArray, List.set_cons_zero, List.set_cons_succ]
        refine wpAnyH_ready (rs := [9]) (by kernel_rfl) (by simp) ?_
        refine AllReadyH.cons (o := ⟨some 6, .alloc _, _, _, _, none⟩) rfl (fun K hK => ?_) AllReadyH.nil
        refine step_new 30 (by rfl) (by rfl) zeroCl ?_
        intro g6 w9 hg6 hgl6 z6 hB9
        have hne : g6 ≠ g7 := fun e => by have := z7.lt; omega
        have z7 := z7.below hB9
        have hg6 : w3.heap.size ≤ g6 := Nat.le_trans hHeld.size hg6
        refine hK.out _ _ (hHeld.belowR hB9) (fun hHeld => ?_)
        clear hK K
        try simp only [Act.put, List.setIfInBounds_toArray, List.set_cons_zero, List.set_cons_succ]
        refine wpAnyH_ready (rs := [11]) (by kernel_rfl) (by simp) ?_
        refine AllReadyH.cons (o := ⟨none, _, _, _, _, none⟩) rfl (fun K hK => ?_) AllReadyH.nil
        refine step_st 30 (.tmp 6) (.tmp 23) (by rfl) (by rfl) (by rfl) (f := 0) (by rfl) (l := x'.l) (by rfl) z6 (by show 0 + 2 ≤ 2; omega) sizeCl (one_cl _) ?_
        intro w11 k6 G6
        have k6 := blk_all k6 (by show 2 ≤ 2; omega)
        have z7 := z7.keep (G6.block _ z7.lt (by intro e; injection e with e; exact hne e.symm))
        refine hK.out _ _ (hHeld.grow G6 (fun k hk => .inr (by injection hk with hk; omega))) (fun hHeld => ?_)
        clear hK K
        try simp only [Act.put, List.setIfInBounds_toArray, List.set_cons_zero, List.set_cons_succ]
        refine wpAnyH_ready (rs := [12]) (by kernel_rfl) (by simp) ?_
        refine AllReadyH.cons (o := ⟨none, _, _, _, _, none⟩) rfl (fun K hK => ?_) AllReadyH.nil
        refine step_st 33 (.tmp 7) (.tmp 24) (by rfl) (by rfl) (by rfl) (f := 0) (by rfl) (l := rvs r) (by rfl) z7 (by show 0 + 2 ≤ 2; omega) sizeRs (one_rvs _) ?_
        intro w12 k7 G7
        have k7 := blk_all k7 (by show 2 ≤ 2; omega)
        have k6 := k6.keep (G7.block _ k6.lt (by intro e; injection e with e; exact hne e))
        refine hK.out _ _ (hHeld.grow G7 (fun k hk => .inr (by injection hk with hk; omega))) (fun hHeld => ?_)
        clear hK K
        try simp only [Act.put, List.setIfInBounds_toArray, List.set_cons_zero, List.set_cons_succ]
        refine wpAnyH_done (by kernel_rfl) ?_ _
        refine NoPanic.normal ?_
        go_wp2
        go_meet
        exact ⟨g6, g7, rfl, rfl, hg6, hg7, k6, k7, hHeld⟩
      refine AllReadyH.cons (o := ⟨some 6, .alloc _, _, _, _, none⟩) rfl (fun K hK => ?_) AllReadyH.nil
      refine step_new 30 (by rfl) (by rfl) zeroCl ?_
      intro g6 w9 hg6 hgl6 z6 hB9
      have hne : g6 ≠ g7 := fun e => by have := z7.lt; omega
      have z7 := z7.below hB9
      have hg6 : w3.heap.size ≤ g6 := Nat.le_trans hHeld.size hg6
      refine hK.out _ _ (hHeld.belowR hB9) (fun hHeld => ?_)
      clear hK K
      try simp only [Act.put, List.setIfInBounds_toArray, List.set_cons_zero, List.set_cons_succ]
      refine wpAnyH_ready (rs := [5]) (by kernel_rfl) (by simp) ?_
      refine AllReadyH.cons (o := ⟨some 22, _, _, _, _, none⟩) rfl (fun K hK => ?_) AllReadyH.nil
      go_simp
      refine (hdn.out _).mono ?_
      rintro e' w7 ⟨rfl, hB7⟩
      have z6 := z6.below hB7
      have z7 := z7.below hB7
      refine hK.out _ _ (hHeld.belowR hB7) (fun hHeld => ?_)
      clear hK K
      try simp only [Act.put, List.setIfInBounds_toArray, List.set_cons_zero, List.set_cons_succ]
      refine wpAnyH_take (i := 6) (oi := ⟨some 16, _, _, _, _, none⟩) (v := ?_) rfl (by kernel_rfl) (by kernel_rfl) (by kernel_rfl) (fun _ _ _ h => h) (Or.inl ⟨by rfl, ?_⟩) (by assumption) ?_
      rotate_left
      · intro w hSw; go_simp; try with_reducible rfl
      try simp only [Act.put, List.setIfInBounds_toArray, List.set_cons_zero, List.set_cons_succ]
      refine wpAnyH_take (i := 7) (oi := ⟨some 23, _, _, _, _, none⟩) (v := ?_) rfl (by kernel_rfl) (by kernel_rfl) (by kernel_rfl) (fun _ _ _ h => h) (Or.inl ⟨by rfl, ?_⟩) (by assumption) ?_
      rotate_left
      · intro w hSw; go_simp; try with_reducible rfl
      try simp only [Act.put, List.setIfInBounds_toArray, List.set_cons_zero, List.set_cons_succ]
      refine wpAnyH_take (i := 8) (oi := ⟨some 24, _, _, _, _, none⟩) (v := ?_) rfl (by kernel_rfl) (by kernel_rfl) (by kernel_rfl) (fun _ _ _ h => h) (Or.inl ⟨by rfl, ?_⟩) (by assumption) ?_
      rotate_left
      · intro w hSw; go_simp; try with_reducible rfl
      try simp only [Act.put, List.setIfInBounds_toArray, List.set_cons_zero, List.set_cons_succ]
      refine wpAnyH_ready (rs := [11]) (by kernel_rfl) (by simp) ?_
      refine AllReadyH.cons (o := ⟨none, _, _, _, _, none⟩) rfl (fun K hK => ?_) AllReadyH.nil
      refine step_st 30 (.tmp 6) (.tmp 23) (by rfl) (by rfl) (by rfl) (f := 0) (by rfl) (l := x'.l) (by rfl) z6 (by show 0 + 2 ≤ 2; omega) sizeCl (one_cl _) ?_
      intro w11 k6 G6
      have k6 := blk_all k6 (by show 2 ≤ 2; omega)
      have z7 := z7.keep (G6.block _ z7.lt (by intro e; injection e with e; exact hne e.symm))
      refine hK.out _ _ (hHeld.grow G6 (fun k hk => .inr (by injection hk with hk; omega))) (fun hHeld => ?_)
      clear hK K
      try simp only [Act.put, List.setIfInBounds_toArray, List.set_cons_zero, List.set_cons_succ]
      refine wpAnyH_ready (rs := [12]) (by kernel_rfl) (by simp) ?_
      refine AllReadyH.cons (o := ⟨none, _, _, _, _, none⟩) rfl (fun K hK => ?_) AllReadyH.nil
      refine step_st 33 (.tmp 7) (.tmp 24) (by rfl) (by rfl) (by rfl) (f := 0) (by rfl) (l := rvs r) (by rfl) z7 (by show 0 + 2 ≤ 2; omega) sizeRs (one_rvs _) ?_
      intro w12 k7 G7
      have k7 := blk_all k7 (by show 2 ≤ 2; omega)
      have k6 := k6.keep (G7.block _ k6.lt (by intro e; injection e with e; exact hne e))
      refine hK.out _ _ (hHeld.grow G7 (fun k hk => .inr (by injection hk with hk; omega))) (fun hHeld => ?_)
      clear hK K
      try simp only [Act.put, List.setIfInBounds_toArray, List.set_cons_zero, List.set_cons_succ]
      refine wpAnyH_done (by kernel_rfl) ?_ _
      refine NoPanic.normal ?_
      go_wp2
      go_meet
      exact ⟨g6, g7, rfl, rfl, hg6, hg7, k6, k7, hHeld⟩
    case rest =>
    obtain ⟨g6, g7, rfl, rfl, hg6, hg7, b6, b7, hch⟩ := hcut
    have h5w := b5.lt
    have b2 := b2.ch hch (fun e => e)
    have b3 := b3.ch hch (fun e => e)
    have b4 := b4.ch hch (fun e => e)
    have b5 := b5.ch hch (fun e => e)
    have hB := Ch.below_of hB hch (fun k hk => hk.elim) hB.size
    have d1 := b3.cellAt 1 _ rfl
    have h67 : g5 < g6 ∧ g5 < g7 := ⟨by omega, by omega⟩
    clear hch hg6 hg7 h5w X2 X3 X31 hdn
    have z2 : (0 + i * 2) = i * 2 := Nat.zero_add _
    go_wp2_with (first | refine wp_ld 30 (.tmp 6) rfl rfl rfl b6.whole Try.underlying30 rfl sizeCl ?_ | refine wp_ixp 31 (.tmp 2) (.tmp 26) rfl rfl rfl rfl Try.underlying31 hi sizeCl ?_ | (refine wp_st 30 (.tmp 28) (.tmp 27) rfl rfl rfl (f := 0 + i * 2) rfl (l := x'.l) rfl b2 (by rw [Ls.out]; show 0 + i * 2 + 2 ≤ 32; omega) sizeCl (one_cl _) ?_; intro w6 k6 G6; refine wp_stop ?_))
    have b7 := b7.keep (G6.block _ b7.lt (by intro e; injection e with e; omega))
    have b4 := b4.keep (G6.block _ b4.lt (by intro e; injection e with e; omega))
    have b5 := b5.keep (G6.block _ b5.lt (by intro e; injection e with e; omega))
    have hB := hB.grown G6 hB.size (by intro k hk; injection hk with hk; omega)
    have b2 : Blk w6 g2 31 (cvs (sc.set i x')) := by
      rw [hss.out i x' (by omega), Nat.mul_comm 2 i]
      rw [Nat.zero_add] at k6
      exact k6
    have Lx := hid (show (cvs (sc.set i x')).length = 32 by rw [len_cvs, List.length_set, hsl])
    obtain ⟨cn, hcn⟩ : ∃ q, q = cvs (sc.set i x') := ⟨_, rfl⟩
    have Hcn : Hid (∀ v ∈ cn, v.oneCell' = true) := by rw [hcn]; exact hid (one_cvs _)
    rw [← hcn] at b2 Lx
    have Hce := hid hcn
    clear hcn k6 G6 b6 b3 d1
    refine wp_go ?_
    go_upto_region 6 with (fail)
    have Y2 := hid (fun Z (h : Ch (fun y => y = g4 ∨ y = g5) w6 Z) => (b2.ch h (by rintro (h | h) <;> omega)).whole)
    have Y7 := hid (fun Z (h : Ch (fun y => y = g4 ∨ y = g5) w6 Z) => (b7.ch h (by rintro (h | h) <;> omega)).whole)
    have h4 := b4.drew
    have h5 := b5.drew
    refine wp_region_noPanic ?_
    refine wp_region_held_drew (S := Ch (fun y => y = g4 ∨ y = g5) w6) (by kernel_rfl) ((Ch.refl _ _).drew) (fun hHeld => ?_)
    refine wpAnyH_take (i := 0) (oi := ⟨some 29, .load 31 (.tmp 2), _, _, _, none⟩) (v := _) rfl (by kernel_rfl) (by kernel_rfl) (by kernel_rfl) (fun _ _ _ h => h) (yieldsIf_load_mid (by rfl) 31 (.tmp 2) (by rfl) _ (0) (by rfl) _ _ (fun _ hs => Y2.out _ hs) Try.underlying31 rfl (by rw [Lx.out]; exact sizeCs)) (by assumption) ?_
    try simp only [Act.put, List.setIfInBounds_toArray, List.set_cons_zero, List.set_cons_succ]
    refine wpAnyH_take (i := 1) (oi := ⟨some 30, .load 33 (.tmp 7), _, _, _, none⟩) (v := _) rfl (by kernel_rfl) (by kernel_rfl) (by kernel_rfl) (fun _ _ _ h => h) (yieldsIf_load_mid (by rfl) 33 (.tmp 7) (by rfl) _ (0) (by rfl) _ _ (fun _ hs => Y7.out _ hs) Try.underlying33 rfl (sizeRs)) (by assumption) ?_
    try simp only [Act.put, List.setIfInBounds_toArray, List.set_cons_zero, List.set_cons_succ]
    refine wpAnyH_ready (rs := [2]) (by kernel_rfl) (by simp) ?_
    refine AllReadyH.cons (o := ⟨none, _, _, _, _, none⟩) rfl (fun K hK => ?_) AllReadyH.nil
    refine step_st 31 (.tmp 4) (.tmp 29) (by rfl) (by rfl) (by rfl) (f := 0) (by rfl) (l := cn) (by rfl) h4 (by rw [Lx.out, len_zCs]; omega) (by rw [Lx.out]; exact sizeCs) Hcn.out ?_
    intro x1 k4 G4
    have h4 := blk_all k4 (by rw [Lx.out, len_zCs]; omega)
    have h5 := h5.keep (G4.block _ h5.lt (by intro e; injection e with e; omega))
    refine hK.out _ _ (hHeld.grow G4 (fun k hk => .inl (.inl (by injection hk with hk; exact hk.symm)))) (fun hHeld => ?_)
    clear hK K
    try simp only [Act.put, List.setIfInBounds_toArray, List.set_cons_zero, List.set_cons_succ]
    refine wpAnyH_ready (rs := [3]) (by kernel_rfl) (by simp) ?_
    refine AllReadyH.cons (o := ⟨none, _, _, _, _, none⟩) rfl (fun K hK => ?_) AllReadyH.nil
    refine step_st 33 (.tmp 5) (.tmp 30) (by rfl) (by rfl) (by rfl) (f := 0) (by rfl) (l := rvs r) (by rfl) h5 (by show 0 + 2 ≤ 2; omega) sizeRs (one_rvs _) ?_
    intro x2 k5 G5
    have h5 := blk_all k5 (by show 2 ≤ 2; omega)
    have h4 := h4.keep (G5.block _ h4.lt (by intro e; injection e with e; omega))
    refine hK.out _ _ (hHeld.grow G5 (fun k hk => .inl (.inr (by injection hk with hk; exact hk.symm)))) (fun hHeld => ?_)
    clear hK K
    try simp only [Act.put, List.setIfInBounds_toArray, List.set_cons_zero, List.set_cons_succ]
    refine wpAnyH_done (by kernel_rfl) ?_ _
    refine NoPanic.normal ?_
    have hB := Ch.below_of hB hHeld (fun k hk => by rcases hk with rfl | rfl <;> omega) hB.size
    go_wp2
    refine ret_cell2 rfl rfl rfl h4.whole h5.whole Try.underlying31 rfl (by rw [Lx.out]; exact sizeCs) Try.underlying33 rfl sizeRs rfl ?_
    exact ⟨sc.set i x', by rw [← Hp2.out, Hce.out], in_set Hin.out i Hdi.out, Hp1.out, set_zero Hz.out i Hdz.out, hB⟩
  · have hdt : decide (0 ≤ y ∧ y ≤ 15) = false := decide_eq_false hy
    rw [hdt]
    have Hd := hid (hbad.out hy)
    clear hdt hbad hy
    go_wp2_with (first | refine wp_ld 31 (.tmp 2) rfl rfl rfl b2.whole Try.underlying31 rfl (by rw [Ls.out]; exact sizeCs) ?_ | refine wp_bld 33 [] rfl rfl [] rfl bldRs ?_ | (refine wp_st 31 (.tmp 4) (.tmp 14) rfl rfl rfl (f := 0) rfl (l := cs) rfl b4 (by rw [Ls.out, len_zCs]; omega) (by rw [Ls.out]; exact sizeCs) Hco.out ?_; intro x1 k4 G4; refine wp_st 33 (.tmp 5) (.tmp 15) rfl rfl rfl (f := 0) rfl (l := rvs (false, 0)) rfl (b5.keep (G4.block _ b5.lt (by intro e; injection e with e; omega))) (by show 0 + 2 ≤ 2; omega) sizeRs (one_rvs _) ?_; intro x2 k5 G5))
    have h4 := (blk_all k4 (by rw [Ls.out, len_zCs]; omega)).keep (G5.block _ k4.lt (by intro e; injection e with e; omega))
    have h5 := blk_all k5 (by show 2 ≤ 2; omega)
    have hB := (hB.grown G4 hB.size (by intro k hk; injection hk with hk; omega)).grown G5 (Nat.le_trans hB.size G4.size) (by intro k hk; injection hk with hk; omega)
    refine ret_cell2 rfl rfl rfl h4.whole h5.whole Try.underlying31 rfl (by rw [Ls.out]; exact sizeCs) Try.underlying33 rfl sizeRs rfl ?_
    exact ⟨sc, by rw [Hd.out, Hcs.out], Hin.out, by rw [Hd.out]; exact Hnm.out, Hz.out, hB⟩
theorem fix1 (i : Nat) (h : i < 256) : fixR 1 i = [UInt8.ofNat i] := by
  unfold fixR
  have h1 : okN 1 := Or.inl rfl
  rw [if_pos h1]
  show [UInt8.ofNat (i / 256 ^ 0 % 256)] = _
  rw [Nat.pow_zero, Nat.div_one, Nat.mod_eq_of_lt h]
theorem kvdo14_any (c : List Cl) (o : Ok) (w : World) (hc : ClIn c) (ho : OkIn o) :
    Calls Try.prog 13 #[.agg (cvs c).toArray, .agg o.l.toArray] w fun e w' => ∃ c', e = .returned (.tuple #[.agg (cvs c').toArray, .agg (rvs (doK (nmF c) o).2).toArray]) ∧ ClIn c' ∧ nmF c' = (doK (nmF c) o).1 ∧ Below w.heap.size w w' := by
  refine (kvdo15_any c o w hc ho).mono ?_
  rintro e w' ⟨c', h1, h2, h3, _, h5⟩
  exact ⟨c', h1, h2, h3, h5⟩
end Go.Proofs.Ytfjgfaccfjdklaa
