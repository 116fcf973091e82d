/- U4: layer 14: KvDoes. -/
import Derived.Test.YtjlncgikmpdgdaaU3
import Derived.Test.YtjlncgikmpdgdaaLW
namespace Go.V
open Go.RowKit
def okD : WD Ok 4 := ⟨fun o => [.atom (.int .i64 o.k), .atom (.int .i64 o.y), .atom (.int .i64 o.a), .atom (.int .i64 o.b)], fun _ => rfl, by omega⟩
theorem ok_open {w : World} {F : Nat → Prop} {o : Ok} {cs : List Value} (h : WdEl w F okD o cs) : cs = o.l := by
  obtain ⟨hl, ha⟩ := h
  match cs, hl with
  | [c0, c1, c2, c3], _ =>
    have h0 := ha 0 c0 _ rfl rfl
    have h1 := ha 1 c1 _ rfl rfl
    have h2 := ha 2 c2 _ rfl rfl
    have h3 := ha 3 c3 _ rfl rfl
    unfold Rd at h0 h1 h2 h3
    subst h0 h1 h2 h3
    rfl
theorem ok_mk {w : World} {F : Nat → Prop} {o : Ok} : WdEl w F okD o o.l :=
  ⟨rfl, fun j v d hv hd => by
    match j with
    | 0 => simp [Ok.l, okD] at hv hd; subst hv hd; unfold Rd; rfl
    | 1 => simp [Ok.l, okD] at hv hd; subst hv hd; unfold Rd; rfl
    | 2 => simp [Ok.l, okD] at hv hd; subst hv hd; unfold Rd; rfl
    | 3 => simp [Ok.l, okD] at hv hd; subst hv hd; unfold Rd; rfl
    | j + 4 => simp [Ok.l] at hv⟩
end Go.V
namespace Go.Proofs.Ytjlncgikmpdgdaa
open Go.RowKit Go.V
set_option maxRecDepth 100000 in
set_option maxHeartbeats 8000000 in
theorem kvDoes_law (c : List Cl) (l : List Ok) (vl : Value) (F : Nat → Prop) (w : World) (hc : ClIn c) (hl : Rd w F vl (wds okD l)) (hin : ∀ o ∈ l, OkIn o) :
    Calls Try.prog 3 #[.agg (cvs c).toArray, vl] w fun e w' => e = .returned (.bool true) ∧ Below w.heap.size w w' := by
  obtain ⟨A, cp, rfl, hc1, hc2⟩ := wds_shape hl
  have Hin := hid hin
  clear hin
  have Lc := hid (show (cvs c).length = 32 by rw [len_cvs, hc.len])
  have b2 := Blk.new' w 24 (cvs c)
  have hB : Below w.heap.size w (w.alloc (.cells (cvs c).toArray 24)) := (Below.refl _ _).alloc (Nat.le_refl _) _
  have hlw := hl.weak (F' := fun b => b < w.heap.size) (fun b h _ => h)
  clear hl
  go_enter Try.func3, Try.ntmps3
  go_wp2_with (fail)
  refine (wakes14_any _).mono ?_
  rintro e w1 ⟨rfl, hB1⟩
  have b2 := b2.below hB1
  have hB := hB.trans (hB1.mono hB.size)
  obtain ⟨g2, hg2⟩ : ∃ g, g = w.heap.size := ⟨_, rfl⟩
  rw [← hg2] at b2 ⊢
  have hw2 : w.heap.size ≤ g2 := by omega
  clear hg2 hB1
  by_cases h100 : 100 < l.length
  · have hI : (100 : Int) < (l.length : Int) := by omega
    go_wp2
    go_ret
    exact ⟨rfl, hB⟩
  have hI : ¬ (100 : Int) < (l.length : Int) := by omega
  go_wp2_with (first | refine wp_ld 24 (.tmp 2) rfl rfl rfl b2.whole Try.underlying24 rfl (by rw [Lc.out]; exact sizeCs) ?_ | (refine wp_newst 24 5 (.tmp 17) rfl rfl rfl rfl rfl rfl zeroCs (l := cvs c) rfl (by rw [Lc.out, len_zCs]) (by rw [Lc.out]; exact sizeCs) (one_cvs _) (by simp [Act.put]) ?_; intro w2 b5 hB2 hs2; refine wp_stop ?_))
  obtain ⟨g5, hg5⟩ : ∃ g, g = w1.heap.size := ⟨_, rfl⟩
  have h25 : g2 < g5 := by have := b2.lt; omega
  rw [← hg5] at b5 ⊢
  clear hg5 hs2
  have b2 := b2.below hB2
  have hB := hB.trans (hB2.mono hB.size)
  have H2 := hid b2
  have H5 := hid b5
  clear hB2 b2 b5 Lc
  refine wp_go ?_
  go_wp2
  go_loopw [20] (fun iv wr => ∃ (i : Nat) (c d : List Cl), i ≤ l.length ∧ iv = .int .i64 i ∧ Blk wr g2 24 (cvs c) ∧ Blk wr g5 24 (cvs d) ∧ ClIn c ∧ ClIn d ∧ nmF c = nmF d ∧ Below w.heap.size w wr) (fun i _ => l.length - (intOf i).toNat)
  case atStart => exact ⟨0, c, c, Nat.zero_le _, rfl, H2.out, H5.out, hc, hc, rfl, hB⟩
  case round =>
    clear H2 H5 hB hc
    obtain ⟨i, c, d, hi, rfl, b2, b5, hc, hd, heq, hB⟩ := hrel
    by_cases hlt : i < l.length
    · obtain ⟨o, ho⟩ : ∃ o, l[i]? = some o := ⟨_, List.getElem?_eq_getElem hlt⟩
      have hI2 : (i : Int) < (l.length : Int) := by omega
      have hlr := hlw.below hB
      obtain ⟨g, off, cs, rfl, hg, hrg, he⟩ := wd_el hlr ho
      have hcs := ok_open he
      subst hcs
      have hoi := Hin.out o (List.mem_of_getElem? ho)
      have hdc := fun W => kvdo14_any c o W hc hoi
      have hdd := fun W => rdo14_any d o W hd hoi
      rw [← heq] at hdd
      obtain ⟨D, hD⟩ : ∃ D, D = doK (nmF c) o := ⟨_, rfl⟩
      rw [← hD] at hdc hdd
      obtain ⟨D1, r⟩ := D
      obtain ⟨ol, hol⟩ : ∃ ol, ol = o.l := ⟨_, rfl⟩
      have hoo : ∀ v ∈ ol, v.oneCell' = true := by rw [hol]; exact one_okl o
      have hon : ol.length = 4 := by rw [hol]; rfl
      rw [← hol] at hrg hdc hdd
      have Hdc := hid hdc
      have Hdd := hid hdd
      have Hon := hid hon
      have Lc := hid (show (cvs c).length = 32 by rw [len_cvs, hc.len])
      have Ld := hid (show (cvs d).length = 32 by rw [len_cvs, hd.len])
      have hne := neRs r
      clear hdc hdd hD heq hoi ho he hol hon hlr hc hd
      go_wp2_with (first | refine wp_ixa 25 (.tmp 18) (.tmp 20) rfl rfl rfl rfl Try.underlying25 hlt sizeOk ?_ | refine wp_ld 28 (.tmp 22) rfl rfl rfl hrg Try.underlying28 rfl (by rw [Hon.out]; exact sizeOk) ?_ | (refine wp_newst 28 7 (.tmp 23) rfl rfl rfl rfl rfl rfl zeroOk (l := ol) rfl (by rw [Hon.out]; rfl) (by rw [Hon.out]; exact sizeOk) hoo (by simp [Act.put]) ?_; intro w3 b7 hB3 hs3; refine wp_stop ?_))
      obtain ⟨g7, hg7⟩ : ∃ g, g = wr.heap.size := ⟨_, rfl⟩
      rw [← hg7] at b7 ⊢
      have h27 : g2 < g7 ∧ g5 < g7 := ⟨by have := b2.lt; omega, by have := b5.lt; omega⟩
      clear hg7 hs3 hrg
      have b2 := b2.below hB3
      have b5 := b5.below hB3
      have hB := hB.trans (hB3.mono hB.size)
      clear hB3
      refine wp_go ?_
      go_wp2_with (first | refine wp_ld 24 (.tmp 2) rfl rfl rfl b2.whole Try.underlying24 rfl (by rw [Lc.out]; exact sizeCs) ?_ | refine wp_ld 28 (.tmp 7) rfl rfl rfl b7.whole Try.underlying28 rfl (by rw [Hon.out]; exact sizeOk) ?_)
      refine (Hdc.out _).mono ?_
      rintro e w4 ⟨c2, rfl, hin2, hnm2, hB4⟩
      have Lc2 := hid (show (cvs c2).length = 32 by rw [len_cvs, hin2.len])
      have b2 := b2.below hB4
      have b5 := b5.below hB4
      have b7 := b7.below hB4
      have hB := hB.trans (hB4.mono hB.size)
      have Hin2 := hid hin2
      have Hn2 := hid hnm2
      have h4s := hB4.size
      have h7l := b7.lt
      clear hB4 hin2 hnm2 Hdc
      show _
      go_wp2_with (first | (refine wp_new2st 24 30 8 9 (.tmp 28) (.tmp 29) rfl rfl rfl rfl rfl rfl rfl rfl rfl rfl rfl rfl zeroCs zeroRs (fun _ _ => rfl) (fun _ _ => rfl) (lA := cvs c2) (lB := rvs r) (fun _ _ => rfl) (fun _ _ => rfl) (by rw [Lc2.out, len_zCs]) rfl (by rw [Lc2.out]; exact sizeCs) sizeRs (one_cvs _) (one_rvs _) ?_; intro gA gB w5 b8 b9 hne' hgA hgB hBn; refine wp_stop ?_))
      obtain ⟨g8, hg8⟩ : ∃ g, g = gA := ⟨_, rfl⟩
      obtain ⟨g9, hg9⟩ : ∃ g, g = gB := ⟨_, rfl⟩
      rw [← hg8] at b8 hgA ⊢
      rw [← hg9] at b9 hgB ⊢
      have h78 : g7 < g8 ∧ g7 < g9 := ⟨by omega, by omega⟩
      clear hne' hg8 hg9 hgA hgB
      have b2 := b2.below hBn
      have b5 := b5.below hBn
      have b7 := b7.below hBn
      have hB := hB.trans (hBn.mono hB.size)
      have h8l := b8.lt
      have h9l := b9.lt
      clear hBn h7l
      refine wp_go ?_
      go_wp2_with (first | refine wp_ld 24 (.tmp 5) rfl rfl rfl b5.whole Try.underlying24 rfl (by rw [Ld.out]; exact sizeCs) ?_ | refine wp_ld 28 (.tmp 7) rfl rfl rfl b7.whole Try.underlying28 rfl (by rw [Hon.out]; exact sizeOk) ?_)
      refine (Hdd.out _).mono ?_
      rintro e w6 ⟨d2, rfl, hin3, hnm3, hB6⟩
      have Ld2 := hid (show (cvs d2).length = 32 by rw [len_cvs, hin3.len])
      have Heq2 := hid (show nmF c2 = nmF d2 by rw [Hn2.out, hnm3])
      have Hid2 := hid hin3
      have b2 := b2.below hB6
      have b5 := b5.below hB6
      have b8 := b8.below hB6
      have b9 := b9.below hB6
      have hB := hB.trans (hB6.mono hB.size)
      have h6s := hB6.size
      clear hB6 hin3 hnm3 Hdd Hn2 b7
      go_wp2_with (first | (refine wp_new2st 24 30 10 11 (.tmp 34) (.tmp 35) rfl rfl rfl rfl rfl rfl rfl rfl rfl rfl rfl rfl zeroCs zeroRs (fun _ _ => rfl) (fun _ _ => rfl) (lA := cvs d2) (lB := rvs r) (fun _ _ => rfl) (fun _ _ => rfl) (by rw [Ld2.out, len_zCs]) rfl (by rw [Ld2.out]; exact sizeCs) sizeRs (one_cvs _) (one_rvs _) ?_; intro gC gD w7 b10 b11 hne'' hgA hgB hBn; refine wp_stop ?_))
      obtain ⟨g10, hg10⟩ : ∃ g, g = gC := ⟨_, rfl⟩
      obtain ⟨g11, hg11⟩ : ∃ g, g = gD := ⟨_, rfl⟩
      rw [← hg10] at b10 hgA ⊢
      rw [← hg11] at b11 hgB ⊢
      have h810 : g8 < g10 ∧ g9 < g10 ∧ g8 < g11 := ⟨by omega, by omega, by omega⟩
      clear hne'' hg10 hg11 hgA hgB
      have b2 := b2.below hBn
      have b5 := b5.below hBn
      have b8 := b8.below hBn
      have b9 := b9.below hBn
      have hB := hB.trans (hBn.mono hB.size)
      clear hBn h8l h9l h4s h6s
      refine wp_go ?_
      go_wp2_with (first | refine wp_ld 24 (.tmp 8) rfl rfl rfl b8.whole Try.underlying24 rfl (by rw [Lc2.out]; exact sizeCs) ?_ | refine wp_ld 24 (.tmp 10) rfl rfl rfl b10.whole Try.underlying24 rfl (by rw [Ld2.out]; exact sizeCs) ?_)
      refine (rsame14_any c2 d2 _ Hin2.out.len Hid2.out.len).mono ?_
      rw [decide_eq_true Heq2.out]
      rintro e w8 ⟨rfl, hB8⟩
      have b2 := b2.below hB8
      have b5 := b5.below hB8
      have b8 := b8.below hB8
      have b9 := b9.below hB8
      have b10 := b10.below hB8
      have b11 := b11.below hB8
      have hB := hB.trans (hB8.mono hB.size)
      clear hB8
      go_wp2_with (first | refine wp_ldg 30 (.tmp 9) rfl rfl rfl b9.whole Try.underlying30 rfl sizeRs ?_ | refine wp_ldg 30 (.tmp 11) rfl rfl rfl b11.whole Try.underlying30 rfl sizeRs ?_)
      go_upto_region 13 with (fail)
      have hBd : Below w8.heap.size w8 w8.drew := (Below.refl _ _).drew
      obtain ⟨wd, hwd⟩ : ∃ x, x = w8.drew := ⟨_, rfl⟩
      rw [← hwd] at hBd
      have b2 := b2.below hBd
      have b5 := b5.below hBd
      have b8 := b8.below hBd
      have b10 := b10.below hBd
      have hB := hB.trans (hBd.mono hB.size)
      clear hBd b9 b11 hne
      refine wp_region_noPanic ?_
      refine wp_region_any (by kernel_rfl) ?_
      change wpAny _ _ _ _ _ _ _ (World.drew _)
      rw [← hwd]
      clear hwd
      refine wpAny_ready (rs := [0, 1]) (by kernel_rfl) (by simp) ?_
      refine AllReady.cons (o := ⟨some 45, .load 24 (.tmp 8), _, _, _, none⟩) rfl (fun K hK => ?_) ?_
      · refine step_ld 24 (.tmp 8) (by rfl) (by rfl) (by rfl) b8.whole Try.underlying24 rfl (by rw [Lc2.out]; exact sizeCs) ?_
        refine hK _ _ ?_
        clear hK K
        try simp only [Act.put, List.setIfInBounds_toArray, List.set_cons_zero, List.set_cons_succ]
        refine wpAny_ready (rs := [1, 2]) (by kernel_rfl) (by simp) ?_
        refine AllReady.cons (o := ⟨some 46, .load 24 (.tmp 10), _, _, _, none⟩) rfl (fun K hK => ?_) ?_
        · refine step_ld 24 (.tmp 10) (by rfl) (by rfl) (by rfl) b10.whole Try.underlying24 rfl (by rw [Ld2.out]; exact sizeCs) ?_
          refine hK _ _ ?_
          clear hK K
          try simp only [Act.put, List.setIfInBounds_toArray, List.set_cons_zero, List.set_cons_succ]
          refine wpAny_ready (rs := [2]) (by kernel_rfl) (by simp) ?_
          refine AllReady.cons (o := ⟨none, .store 24 (.tmp 2) (.tmp 45), _, _, _, none⟩) rfl (fun K hK => ?_) AllReady.nil
          refine step_st 24 (.tmp 2) (.tmp 45) (by rfl) (by rfl) (by rfl) (f := 0) (by rfl) (l := cvs c2) (by rfl) b2 (by rw [Lc2.out, Lc.out]; omega) (by rw [Lc2.out]; exact sizeCs) (one_cvs _) ?_
          intro x7 k7 G7
          have b2 := blk_all k7 (by rw [Lc2.out, Lc.out]; omega)
          have b5 := b5.keep (G7.block _ b5.lt (by intro e; injection e with e; omega))
          have b8 := b8.keep (G7.block _ b8.lt (by intro e; injection e with e; omega))
          have b10 := b10.keep (G7.block _ b10.lt (by intro e; injection e with e; omega))
          have hB := hB.grown G7 hB.size (by intro k hk; injection hk with hk; omega)
          refine hK _ _ ?_
          clear hK K
          try simp only [Act.put, List.setIfInBounds_toArray, List.set_cons_zero, List.set_cons_succ]
          refine wpAny_ready (rs := [3]) (by kernel_rfl) (by simp) ?_
          refine AllReady.cons (o := ⟨none, .store 24 (.tmp 5) (.tmp 46), _, _, _, none⟩) rfl (fun K hK => ?_) AllReady.nil
          refine step_st 24 (.tmp 5) (.tmp 46) (by rfl) (by rfl) (by rfl) (f := 0) (by rfl) (l := cvs d2) (by rfl) b5 (by rw [Ld2.out, Ld.out]; omega) (by rw [Ld2.out]; exact sizeCs) (one_cvs _) ?_
          intro x9 k9 G9
          have b5 := blk_all k9 (by rw [Ld2.out, Ld.out]; omega)
          have b2 := b2.keep (G9.block _ b2.lt (by intro e; injection e with e; omega))
          have b8 := b8.keep (G9.block _ b8.lt (by intro e; injection e with e; omega))
          have b10 := b10.keep (G9.block _ b10.lt (by intro e; injection e with e; omega))
          have hB := hB.grown G9 hB.size (by intro k hk; injection hk with hk; omega)
          refine hK _ _ ?_
          clear hK K
          try simp only [Act.put, List.setIfInBounds_toArray, List.set_cons_zero, List.set_cons_succ]
          refine wpAny_done (by kernel_rfl) ?_ _
          refine NoPanic.normal ?_
          have H2 := hid b2
          have H5 := hid b5
          clear b2 b5 b8 b10
          go_wp2
          go_roundw
          case rel => exact ⟨i + 1, c2, d2, by omega, by go_num, H2.out, H5.out, Hin2.out, Hid2.out, Heq2.out, hB⟩
          case measure => simp [intOf]; omega
        refine AllReady.cons (o := ⟨none, .store 24 (.tmp 2) (.tmp 45), _, _, _, none⟩) rfl (fun K hK => ?_) AllReady.nil
        refine step_st 24 (.tmp 2) (.tmp 45) (by rfl) (by rfl) (by rfl) (f := 0) (by rfl) (l := cvs c2) (by rfl) b2 (by rw [Lc2.out, Lc.out]; omega) (by rw [Lc2.out]; exact sizeCs) (one_cvs _) ?_
        intro x7 k7 G7
        have b2 := blk_all k7 (by rw [Lc2.out, Lc.out]; omega)
        have b5 := b5.keep (G7.block _ b5.lt (by intro e; injection e with e; omega))
        have b8 := b8.keep (G7.block _ b8.lt (by intro e; injection e with e; omega))
        have b10 := b10.keep (G7.block _ b10.lt (by intro e; injection e with e; omega))
        have hB := hB.grown G7 hB.size (by intro k hk; injection hk with hk; omega)
        refine hK _ _ ?_
        clear hK K
        try simp only [Act.put, List.setIfInBounds_toArray, List.set_cons_zero, List.set_cons_succ]
        refine wpAny_ready (rs := [1]) (by kernel_rfl) (by simp) ?_
        refine AllReady.cons (o := ⟨some 46, .load 24 (.tmp 10), _, _, _, none⟩) rfl (fun K hK => ?_) AllReady.nil
        refine step_ld 24 (.tmp 10) (by rfl) (by rfl) (by rfl) b10.whole Try.underlying24 rfl (by rw [Ld2.out]; exact sizeCs) ?_
        refine hK _ _ ?_
        clear hK K
        try simp only [Act.put, List.setIfInBounds_toArray, List.set_cons_zero, List.set_cons_succ]
        refine wpAny_ready (rs := [3]) (by kernel_rfl) (by simp) ?_
        refine AllReady.cons (o := ⟨none, .store 24 (.tmp 5) (.tmp 46), _, _, _, none⟩) rfl (fun K hK => ?_) AllReady.nil
        refine step_st 24 (.tmp 5) (.tmp 46) (by rfl) (by rfl) (by rfl) (f := 0) (by rfl) (l := cvs d2) (by rfl) b5 (by rw [Ld2.out, Ld.out]; omega) (by rw [Ld2.out]; exact sizeCs) (one_cvs _) ?_
        intro x9 k9 G9
        have b5 := blk_all k9 (by rw [Ld2.out, Ld.out]; omega)
        have b2 := b2.keep (G9.block _ b2.lt (by intro e; injection e with e; omega))
        have b8 := b8.keep (G9.block _ b8.lt (by intro e; injection e with e; omega))
        have b10 := b10.keep (G9.block _ b10.lt (by intro e; injection e with e; omega))
        have hB := hB.grown G9 hB.size (by intro k hk; injection hk with hk; omega)
        refine hK _ _ ?_
        clear hK K
        try simp only [Act.put, List.setIfInBounds_toArray, List.set_cons_zero, List.set_cons_succ]
        refine wpAny_done (by kernel_rfl) ?_ _
        refine NoPanic.normal ?_
        have H2 := hid b2
        have H5 := hid b5
        clear b2 b5 b8 b10
        go_wp2
        go_roundw
        case rel => exact ⟨i + 1, c2, d2, by omega, by go_num, H2.out, H5.out, Hin2.out, Hid2.out, Heq2.out, hB⟩
        case measure => simp [intOf]; omega
      refine AllReady.cons (o := ⟨some 46, .load 24 (.tmp 10), _, _, _, none⟩) rfl (fun K hK => ?_) AllReady.nil
      refine step_ld 24 (.tmp 10) (by rfl) (by rfl) (by rfl) b10.whole Try.underlying24 rfl (by rw [Ld2.out]; exact sizeCs) ?_
      refine hK _ _ ?_
      clear hK K
      try simp only [Act.put, List.setIfInBounds_toArray, List.set_cons_zero, List.set_cons_succ]
      refine wpAny_ready (rs := [0]) (by kernel_rfl) (by simp) ?_
      refine AllReady.cons (o := ⟨some 45, .load 24 (.tmp 8), _, _, _, none⟩) rfl (fun K hK => ?_) AllReady.nil
      refine step_ld 24 (.tmp 8) (by rfl) (by rfl) (by rfl) b8.whole Try.underlying24 rfl (by rw [Lc2.out]; exact sizeCs) ?_
      refine hK _ _ ?_
      clear hK K
      try simp only [Act.put, List.setIfInBounds_toArray, List.set_cons_zero, List.set_cons_succ]
      refine wpAny_ready (rs := [2]) (by kernel_rfl) (by simp) ?_
      refine AllReady.cons (o := ⟨none, .store 24 (.tmp 2) (.tmp 45), _, _, _, none⟩) rfl (fun K hK => ?_) AllReady.nil
      refine step_st 24 (.tmp 2) (.tmp 45) (by rfl) (by rfl) (by rfl) (f := 0) (by rfl) (l := cvs c2) (by rfl) b2 (by rw [Lc2.out, Lc.out]; omega) (by rw [Lc2.out]; exact sizeCs) (one_cvs _) ?_
      intro x7 k7 G7
      have b2 := blk_all k7 (by rw [Lc2.out, Lc.out]; omega)
      have b5 := b5.keep (G7.block _ b5.lt (by intro e; injection e with e; omega))
      have b8 := b8.keep (G7.block _ b8.lt (by intro e; injection e with e; omega))
      have b10 := b10.keep (G7.block _ b10.lt (by intro e; injection e with e; omega))
      have hB := hB.grown G7 hB.size (by intro k hk; injection hk with hk; omega)
      refine hK _ _ ?_
      clear hK K
      try simp only [Act.put, List.setIfInBounds_toArray, List.set_cons_zero, List.set_cons_succ]
      refine wpAny_ready (rs := [3]) (by kernel_rfl) (by simp) ?_
      refine AllReady.cons (o := ⟨none, .store 24 (.tmp 5) (.tmp 46), _, _, _, none⟩) rfl (fun K hK => ?_) AllReady.nil
      refine step_st 24 (.tmp 5) (.tmp 46) (by rfl) (by rfl) (by rfl) (f := 0) (by rfl) (l := cvs d2) (by rfl) b5 (by rw [Ld2.out, Ld.out]; omega) (by rw [Ld2.out]; exact sizeCs) (one_cvs _) ?_
      intro x9 k9 G9
      have b5 := blk_all k9 (by rw [Ld2.out, Ld.out]; omega)
      have b2 := b2.keep (G9.block _ b2.lt (by intro e; injection e with e; omega))
      have b8 := b8.keep (G9.block _ b8.lt (by intro e; injection e with e; omega))
      have b10 := b10.keep (G9.block _ b10.lt (by intro e; injection e with e; omega))
      have hB := hB.grown G9 hB.size (by intro k hk; injection hk with hk; omega)
      refine hK _ _ ?_
      clear hK K
      try simp only [Act.put, List.setIfInBounds_toArray, List.set_cons_zero, List.set_cons_succ]
      refine wpAny_done (by kernel_rfl) ?_ _
      refine NoPanic.normal ?_
      have H2 := hid b2
      have H5 := hid b5
      clear b2 b5 b8 b10
      go_wp2
      go_roundw
      case rel => exact ⟨i + 1, c2, d2, by omega, by go_num, H2.out, H5.out, Hin2.out, Hid2.out, Heq2.out, hB⟩
      case measure => simp [intOf]; omega
    · have hi' : i = l.length := by omega
      subst hi'
      have hI2 : ¬ (l.length : Int) < (l.length : Int) := by omega
      clear heq
      go_wp2
      go_ret
      exact ⟨rfl, hB⟩
end Go.Proofs.Ytjlncgikmpdgdaa
