/- U6: layer 14: KvApart. -/
import Derived.Test.YtjlncgikmpdgdaaU3
namespace Go.V
open Go.RowKit
theorem good_nat {o : Ok} (h : goodK o) : o.y = (o.y.toNat : Int) := by have := h.1.1; omega
theorem getD_set_ne {s : List (Option Int)} {i j : Nat} (h : i ≠ j) (x : Option Int) : (s.set i x).getD j none = s.getD j none := by
  rw [List.getD_eq_getElem?_getD, List.getD_eq_getElem?_getD, List.getElem?_set, if_neg h]
theorem doK_comm (s : List (Option Int)) (a b : Ok) (h : a.y ≠ b.y) : (doK (doK s a).1 b).1 = (doK (doK s b).1 a).1 ∧ (doK s a).2 = (doK (doK s b).1 a).2 ∧ (doK (doK s a).1 b).2 = (doK s b).2 := by
  by_cases ha : goodK a
  · by_cases hb : goodK b
    · have hne : a.y.toNat ≠ b.y.toNat := fun e => h (by rw [good_nat ha, good_nat hb, e])
      unfold doK
      rw [if_pos ha, if_pos hb]
      dsimp only
      rw [if_pos hb, if_pos ha]
      dsimp only
      rw [getD_set_ne hne, getD_set_ne (Ne.symm hne)]
      exact ⟨List.set_comm _ _ hne, rfl, rfl⟩
    · refine ⟨?_, ?_, ?_⟩ <;> simp only [doK, if_pos ha, if_neg hb]
  · by_cases hb : goodK b
    · refine ⟨?_, ?_, ?_⟩ <;> simp only [doK, if_neg ha, if_pos hb]
    · refine ⟨?_, ?_, ?_⟩ <;> simp only [doK, if_neg ha, if_neg hb]
theorem alloc3 (w : World) (tA tB tC : TypeId) (lA lB lC : List Value) : ∃ W, W = (((w.alloc (.cells lA.toArray tA)).alloc (.cells lB.toArray tB)).alloc (.cells lC.toArray tC)) ∧ Blk W w.heap.size tA lA ∧ Blk W (w.heap.size + 1) tB lB ∧ Blk W (w.heap.size + 1 + 1) tC lC ∧ Below w.heap.size w W := by
  refine ⟨_, rfl, ?_⟩
  have a1 := Blk.new' w tA lA
  have B1 : Below w.heap.size w (w.alloc (.cells lA.toArray tA)) := (Below.refl _ _).alloc (Nat.le_refl _) _
  obtain ⟨w1, h1⟩ : ∃ x, x = w.alloc (.cells lA.toArray tA) := ⟨_, rfl⟩
  have s1 : w1.heap.size = w.heap.size + 1 := by rw [h1]; simp
  rw [← h1] at a1 B1 ⊢
  clear h1
  have a2 := Blk.new' w1 tB lB
  have B2 : Below w1.heap.size w1 (w1.alloc (.cells lB.toArray tB)) := (Below.refl _ _).alloc (Nat.le_refl _) _
  obtain ⟨w2, h2⟩ : ∃ x, x = w1.alloc (.cells lB.toArray tB) := ⟨_, rfl⟩
  have s2 : w2.heap.size = w1.heap.size + 1 := by rw [h2]; simp
  rw [← h2] at a2 B2 ⊢
  clear h2
  have a3 := Blk.new' w2 tC lC
  have B3 : Below w2.heap.size w2 (w2.alloc (.cells lC.toArray tC)) := (Below.refl _ _).alloc (Nat.le_refl _) _
  have e3 : w2.heap.size = w.heap.size + 1 + 1 := by omega
  rw [← e3, ← s1]
  exact ⟨(a1.below B2).below B3, a2.below B3, a3, (B1.trans (B2.mono (by omega))).trans (B3.mono (by omega))⟩
end Go.V
namespace Go.Proofs.Ytjlncgikmpdgdaa
open Go.RowKit Go.V
set_option maxRecDepth 100000 in
set_option maxHeartbeats 8000000 in
theorem kvApart_law (c : List Cl) (a b : Ok) (w : World) (hc : ClIn c) (ha : OkIn a) (hb : OkIn b) :
    Calls Try.prog 4 #[.agg (cvs c).toArray, .agg a.l.toArray, .agg b.l.toArray] w fun e w' => e = .returned (.bool true) ∧ Below w.heap.size w w' := by
  have hcm := doK_comm (nmF c) a b
  obtain ⟨W, hW, b3, b4, b5, hB⟩ := alloc3 w 24 28 28 (cvs c) a.l b.l
  have Lc := hid (show (cvs c).length = 32 by rw [len_cvs, hc.len])
  have e1 : a.l[1]? = some (.int .i64 a.y) := rfl
  have f1 : b.l[1]? = some (.int .i64 b.y) := rfl
  have hda := fun (c : List Cl) (W : World) (hc : ClIn c) => kvdo14_any c a W hc ha
  have hdb := fun (c : List Cl) (W : World) (hc : ClIn c) => kvdo14_any c b W hc hb
  have hya := one_okl a
  have hyb := one_okl b
  have Hcm := hid hcm
  obtain ⟨ya, hya'⟩ : ∃ y, y = a.y := ⟨_, rfl⟩
  obtain ⟨yb, hyb'⟩ : ∃ y, y = b.y := ⟨_, rfl⟩
  rw [← hya'] at e1
  rw [← hyb'] at f1
  have Hab := hid (And.intro hya' hyb')
  have la : a.l.length = 4 := rfl
  have lb : b.l.length = 4 := rfl
  clear hya' hyb' hcm
  go_enter Try.func4, Try.ntmps4
  go_wp2_with (fail)
  rw [← hW]
  clear hW
  refine (wakes14_any _).mono ?_
  rintro e w1 ⟨rfl, hB1⟩
  have b3 := b3.below hB1
  have b4 := b4.below hB1
  have b5 := b5.below hB1
  have hB := hB.trans (hB1.mono hB.size)
  obtain ⟨g5, hg5⟩ : ∃ g, g = w.heap.size + 1 + 1 := ⟨_, rfl⟩
  rw [← hg5] at b5 ⊢
  obtain ⟨g4, hg4⟩ : ∃ g, g = w.heap.size + 1 := ⟨_, rfl⟩
  rw [← hg4] at b4 ⊢
  obtain ⟨g3, hg3⟩ : ∃ g, g = w.heap.size := ⟨_, rfl⟩
  rw [← hg3] at b3 ⊢
  clear hg3 hg4 hg5 hB1
  have c4 := b4.cellAt 1 _ e1
  have c5 := b5.cellAt 1 _ f1
  cases hyy : ya == yb with
  | true =>
    go_wp2
    go_ret
    exact ⟨rfl, hB⟩
  | false =>
  have Hcm := hid (Hcm.out (by rw [← Hab.out.1, ← Hab.out.2]; exact beq_eq_false_iff_ne.1 hyy))
  obtain ⟨D1, hD1⟩ : ∃ D, D = doK (nmF c) a := ⟨_, rfl⟩
  obtain ⟨D2, hD2⟩ : ∃ D, D = doK (nmF c) b := ⟨_, rfl⟩
  obtain ⟨D3, hD3⟩ : ∃ D, D = doK D1.1 b := ⟨_, rfl⟩
  obtain ⟨D4, hD4⟩ : ∃ D, D = doK D2.1 a := ⟨_, rfl⟩
  have hc1 : D3.1 = D4.1 ∧ D1.2 = D4.2 ∧ D3.2 = D2.2 := by
    have := Hcm.out
    rw [← hD1, ← hD2, ← hD3, ← hD4] at this
    exact this
  have Hc1 := hid hc1.1
  have hr1 : D4.2 = D1.2 := hc1.2.1.symm
  have hr2 : D2.2 = D3.2 := hc1.2.2.symm
  have Hda := hid (fun (W : World) => by have := hda c W hc; rw [← hD1] at this; exact this)
  have Hdb := hid (fun (W : World) => by have := hdb c W hc; rw [← hD2] at this; exact this)
  have Hda2 := hid (fun (x : List Cl) (W : World) (hx : ClIn x) (hn : nmF x = D2.1) => by have := hda x W hx; rw [hn, ← hD4] at this; exact this)
  have Hdb2 := hid (fun (x : List Cl) (W : World) (hx : ClIn x) (hn : nmF x = D1.1) => by have := hdb x W hx; rw [hn, ← hD3] at this; exact this)
  obtain ⟨r, hr⟩ : ∃ r, r = D1.2 := ⟨_, rfl⟩
  obtain ⟨s, hs⟩ : ∃ r, r = D3.2 := ⟨_, rfl⟩
  rw [hr2, ← hs] at Hdb
  rw [← hr] at Hda
  rw [hr1, ← hr] at Hda2
  rw [← hs] at Hdb2
  have nr := neRs r
  have ns := neRs s
  obtain ⟨al, hal⟩ : ∃ l, l = a.l := ⟨_, rfl⟩
  obtain ⟨bl, hbl⟩ : ∃ l, l = b.l := ⟨_, rfl⟩
  rw [← hal] at b4 la Hda Hda2
  rw [← hbl] at b5 lb Hdb Hdb2
  have La := hid la
  have Lb := hid lb
  clear hda hdb hD1 hD2 hD3 hD4 hc1 hr1 hr2 hr hs hya hyb hal hbl la lb Hcm Hab
  go_wp2_with (first | refine wp_ld 24 (.tmp 3) rfl rfl rfl b3.whole Try.underlying24 rfl (by rw [Lc.out]; exact sizeCs) ?_ | refine wp_ld 28 (.tmp 4) rfl rfl rfl b4.whole Try.underlying28 rfl (by rw [La.out]; exact sizeOk) ?_)
  refine (Hda.out _).mono ?_
  rintro e v5 ⟨c5', rfl, hin5, hnm5, hB5⟩
  have L5 := hid (show (cvs c5').length = 32 by rw [len_cvs, hin5.len])
  have b3 := b3.below hB5
  have b4 := b4.below hB5
  have b5 := b5.below hB5
  have hB := hB.trans (hB5.mono hB.size)
  clear hB5 c4 c5
  have i3 := b3.lt
  have i4 := b4.lt
  have i5 := b5.lt
  have iw := hB.size
  go_wp2_with (first | (refine wp_new2st 24 30 7 8 (.tmp 24) (.tmp 25) rfl rfl rfl rfl rfl rfl rfl rfl rfl rfl rfl rfl zeroCs zeroRs (fun _ _ => rfl) (fun _ _ => rfl) (lA := cvs c5') (lB := rvs r) (fun _ _ => rfl) (fun _ _ => rfl) (by rw [L5.out, len_zCs]) rfl (by rw [L5.out]; exact sizeCs) sizeRs (one_cvs _) (one_rvs _) ?_; intro g7 g8 w5 b7 b8 hne hgA hgB hBn; refine wp_stop ?_))
  have b3 := b3.below hBn
  have b4 := b4.below hBn
  have b5 := b5.below hBn
  have hB := hB.trans (hBn.mono hB.size)
  have h7 : g7 ≠ g8 := hne
  have h37 : g3 ≠ g7 ∧ g4 ≠ g7 ∧ g5 ≠ g7 ∧ w.heap.size ≤ g7 := by have h := hgA; refine ⟨?_, ?_, ?_, ?_⟩ <;> omega
  clear hne hgA hgB hBn i3 i4 i5 iw
  refine wp_go ?_
  go_wp2_with (first | refine wp_ld 24 (.tmp 7) rfl rfl rfl b7.whole Try.underlying24 rfl (by rw [L5.out]; exact sizeCs) ?_ | refine wp_ld 28 (.tmp 5) rfl rfl rfl b5.whole Try.underlying28 rfl (by rw [Lb.out]; exact sizeOk) ?_)
  refine (Hdb2.out c5' _ hin5 hnm5).mono ?_
  rintro e v6 ⟨c6', rfl, hin6, hnm6, hB6⟩
  have L6 := hid (show (cvs c6').length = 32 by rw [len_cvs, hin6.len])
  have b3 := b3.below hB6
  have b4 := b4.below hB6
  have b5 := b5.below hB6
  have b7 := b7.below hB6
  have b8 := b8.below hB6
  have hB := hB.trans (hB6.mono hB.size)
  clear hB6
  go_wp2_with (first | (refine wp_new1st2 24 30 9 (.tmp 7) (.tmp 30) (.tmp 31) rfl rfl rfl rfl rfl rfl rfl rfl rfl zeroRs (fun _ => rfl) (fun _ => rfl) (lA := cvs c6') (lB := rvs s) (fun _ => rfl) (fun _ => rfl) b7 (by rw [L5.out, L6.out]) rfl (by rw [L6.out]; exact sizeCs) sizeRs (one_cvs _) (one_rvs _) ?_; intro g9 w6 b7n b9 hgB hCn; refine wp_stop ?_))
  have b3 := b3.ch hCn (by first | exact h37.1 | exact h37.2.1 | exact h37.2.2.1 | exact (Ne.symm h7))
  have b4 := b4.ch hCn (by first | exact h37.1 | exact h37.2.1 | exact h37.2.2.1 | exact (Ne.symm h7))
  have b5 := b5.ch hCn (by first | exact h37.1 | exact h37.2.1 | exact h37.2.2.1 | exact (Ne.symm h7))
  have b8 := b8.ch hCn (by first | exact h37.1 | exact h37.2.1 | exact h37.2.2.1 | exact (Ne.symm h7))
  have hB := Ch.below_of hB hCn (fun k hk => by have e : k = g7 := hk; rw [e]; exact h37.2.2.2) hB.size
  have b7 := b7n
  clear hCn hgB b7n
  refine wp_go ?_
  go_wp2_with (first | refine wp_ld 24 (.tmp 3) rfl rfl rfl b3.whole Try.underlying24 rfl (by rw [Lc.out]; exact sizeCs) ?_ | refine wp_ld 28 (.tmp 5) rfl rfl rfl b5.whole Try.underlying28 rfl (by rw [Lb.out]; exact sizeOk) ?_)
  refine (Hdb.out _).mono ?_
  rintro e v7 ⟨c7', rfl, hin7, hnm7, hB7⟩
  have L7 := hid (show (cvs c7').length = 32 by rw [len_cvs, hin7.len])
  have b3 := b3.below hB7
  have b4 := b4.below hB7
  have b5 := b5.below hB7
  have b7 := b7.below hB7
  have b8 := b8.below hB7
  have b9 := b9.below hB7
  have hB := hB.trans (hB7.mono hB.size)
  clear hB7
  have i7 := b7.lt
  have i8 := b8.lt
  have i9 := b9.lt
  have i3 := b3.lt
  have i4 := b4.lt
  have i5 := b5.lt
  have iw := hB.size
  go_wp2_with (first | (refine wp_new2st 24 30 10 11 (.tmp 36) (.tmp 37) rfl rfl rfl rfl rfl rfl rfl rfl rfl rfl rfl rfl zeroCs zeroRs (fun _ _ => rfl) (fun _ _ => rfl) (lA := cvs c7') (lB := rvs s) (fun _ _ => rfl) (fun _ _ => rfl) (by rw [L7.out, len_zCs]) rfl (by rw [L7.out]; exact sizeCs) sizeRs (one_cvs _) (one_rvs _) ?_; intro g10 g11 w7 b10 b11 hne hgA hgB hBn; refine wp_stop ?_))
  have b3 := b3.below hBn
  have b4 := b4.below hBn
  have b5 := b5.below hBn
  have b7 := b7.below hBn
  have b8 := b8.below hBn
  have b9 := b9.below hBn
  have hB := hB.trans (hBn.mono hB.size)
  have h10 : g3 ≠ g10 ∧ g4 ≠ g10 ∧ g5 ≠ g10 ∧ g7 ≠ g10 ∧ g8 ≠ g10 ∧ g9 ≠ g10 ∧ g11 ≠ g10 ∧ w.heap.size ≤ g10 := by refine ⟨?_, ?_, ?_, ?_, ?_, ?_, ?_, ?_⟩ <;> omega
  clear hne hgA hgB hBn i3 i4 i5 i7 i8 i9 iw
  refine wp_go ?_
  go_wp2_with (first | refine wp_ld 24 (.tmp 10) rfl rfl rfl b10.whole Try.underlying24 rfl (by rw [L7.out]; exact sizeCs) ?_ | refine wp_ld 28 (.tmp 4) rfl rfl rfl b4.whole Try.underlying28 rfl (by rw [La.out]; exact sizeOk) ?_)
  refine (Hda2.out c7' _ hin7 hnm7).mono ?_
  rintro e v8 ⟨c8', rfl, hin8, hnm8, hB8⟩
  have L8 := hid (show (cvs c8').length = 32 by rw [len_cvs, hin8.len])
  have b3 := b3.below hB8
  have b4 := b4.below hB8
  have b5 := b5.below hB8
  have b7 := b7.below hB8
  have b8 := b8.below hB8
  have b9 := b9.below hB8
  have b10 := b10.below hB8
  have b11 := b11.below hB8
  have hB := hB.trans (hB8.mono hB.size)
  clear hB8
  go_wp2_with (first | (refine wp_new1st2 24 30 12 (.tmp 10) (.tmp 42) (.tmp 43) rfl rfl rfl rfl rfl rfl rfl rfl rfl zeroRs (fun _ => rfl) (fun _ => rfl) (lA := cvs c8') (lB := rvs r) (fun _ => rfl) (fun _ => rfl) b10 (by rw [L7.out, L8.out]) rfl (by rw [L8.out]; exact sizeCs) sizeRs (one_cvs _) (one_rvs _) ?_; intro g12 w8 b10n b12 hgB hCn; refine wp_stop ?_))
  have b7 := b7.ch hCn h10.2.2.2.1
  have b8 := b8.ch hCn h10.2.2.2.2.1
  have b9 := b9.ch hCn h10.2.2.2.2.2.1
  have b11 := b11.ch hCn h10.2.2.2.2.2.2.1
  have hB := Ch.below_of hB hCn (fun k hk => by have e : k = g10 := hk; rw [e]; exact h10.2.2.2.2.2.2.2) hB.size
  have b10 := b10n
  clear hCn hgB b10n b3 b4 b5
  refine wp_go ?_
  go_wp2_with (first | refine wp_ld 24 (.tmp 7) rfl rfl rfl b7.whole Try.underlying24 rfl (by rw [L6.out]; exact sizeCs) ?_ | refine wp_ld 24 (.tmp 10) rfl rfl rfl b10.whole Try.underlying24 rfl (by rw [L8.out]; exact sizeCs) ?_)
  refine (rsame14_any c6' c8' _ hin6.len hin8.len).mono ?_
  rw [decide_eq_true (by rw [hnm6, hnm8]; exact Hc1.out)]
  rintro e w9 ⟨rfl, hB9⟩
  have b7 := b7.below hB9
  have b8 := b8.below hB9
  have b9 := b9.below hB9
  have b10 := b10.below hB9
  have b11 := b11.below hB9
  have b12 := b12.below hB9
  have hB := hB.trans (hB9.mono hB.size)
  clear hB9 b7 b10 hnm5 hnm6 hnm7 hnm8 Hc1
  go_wp2_with (first | refine wp_ldg 30 (.tmp 8) rfl rfl rfl b8.whole Try.underlying30 rfl sizeRs ?_ | refine wp_ldg 30 (.tmp 12) rfl rfl rfl b12.whole Try.underlying30 rfl sizeRs ?_ | refine wp_ldg 30 (.tmp 9) rfl rfl rfl b9.whole Try.underlying30 rfl sizeRs ?_ | refine wp_ldg 30 (.tmp 11) rfl rfl rfl b11.whole Try.underlying30 rfl sizeRs ?_)
  go_ret
  exact ⟨rfl, hB⟩
end Go.Proofs.Ytjlncgikmpdgdaa
