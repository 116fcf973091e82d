/- K8: layer 5: the law KeysApart. -/
import Derived.Test.YtcbojdbmfjhkiaaDoorK6
namespace Go.V
open Go.RowKit
theorem own_blk {w : World} {base n : Nat} {e : TypeId} {v : Value} {xs : List Value} (h : w.ownsRow base e 1 v n xs) (hn : 0 < n) : ∃ g c cur, v = .slice (some ⟨g, 0, none⟩) n c ∧ base ≤ g ∧ Blk w g e cur ∧ cur.take n = xs ∧ n ≤ cur.length ∧ n ≤ c ∧ c ≤ maxLen := by
  rcases h.2 with ⟨rfl, rfl⟩ | ⟨g, cap, cur, rfl, hg, hh, h1, h2, h3, h4⟩
  · omega
  · exact ⟨g, cap, cur.toList, rfl, hg, by unfold Blk; simpa using hh, by simpa using h4, by simp; omega, h1, h2⟩
theorem Blk.rdTake {w : World} {g : Nat} {t : TypeId} {cs : List Value} (h : Blk w g t cs) {bs : List UInt8} {n c : Nat} (ht : cs.take n = bvs bs) (hn : bs.length = n) (h1 : n ≤ c) (h2 : c ≤ maxLen) : Rd w (fun b => b = g) (.slice (some ⟨g, 0, none⟩) n c) (bys bs) := by
  subst hn
  unfold bys Rd
  refine ⟨_, c, rfl, h1, h2, fun h0 => by rw [List.eq_nil_of_length_eq_zero h0]; rfl, fun _ => ⟨_, _, rfl, rfl, RdC.of_bytes fun j u hu => ?_⟩⟩
  rw [Nat.zero_add]
  refine h.cellAt j u ?_
  rw [← ht, List.getElem?_take] at hu
  split at hu
  · exact hu
  · cases hu
end Go.V
namespace Go.Proofs.YtcbojdbmfjhkiaaDoor
open Go.RowKit Go.V
set_option maxRecDepth 100000 in
set_option maxHeartbeats 4000000 in
theorem keysApart_law (seed : List UInt8) (tv : Value) (text : List UInt8) (y : UInt8) (F : Nat → Prop) (w : World) (hK : KS w) (hl : seed.length = 32) (ht : Rd w F tv (bys text)) :
    Calls Tryd.prog 6 #[.agg (bvs seed).toArray, tv, .int .u8 (y.toNat : Int)] w fun e w' => e = .returned (.bool true) ∧ Below w.heap.size w w' := by
  obtain ⟨A, c, rfl⟩ := ht.shape
  have Hl := hid hl
  clear hl
  have hsd := Blk.new' w 23 (bvs seed)
  have hB := (Below.refl w.heap.size w).alloc (Nat.le_refl _) (.cells (bvs seed).toArray 23)
  by_cases hg : 300 < text.length
  · go_enter Tryd.func6, Tryd.ntmps6
    go_wp2_with (fail)
    refine (wakes5_any _ (hK.below hB)).mono ?_
    rintro e w1 ⟨rfl, hB1⟩
    go_wp2
    go_ret
    exact ⟨rfl, hB.trans (hB1.mono hB.size)⟩
  obtain ⟨n, hn⟩ : ∃ n, n = y.toNat := ⟨_, rfl⟩
  have hn256 : n < 256 := by rw [hn]; exact y.toNat_lt
  have Hn := hid hn
  rw [← hn]
  clear hn
  have h8 : n % 8 ≤ 7 := by omega
  go_enter Tryd.func6, Tryd.ntmps6
  go_wp2_with (fail)
  refine (wakes5_any _ (hK.below hB)).mono ?_
  rintro e w1 ⟨rfl, hB1⟩
  have hB1' := hB.trans (hB1.mono hB.size)
  have hsd1 := hsd.below hB1
  go_wp2_with (with_reducible refine wp_at 20 rfl ?_)
  refine wp_on ?_
  refine wp_ld 23 (.tmp 3) rfl rfl rfl hsd1.whole und25 rfl (by rw [len_bvs, Hl.out]; exact size25) ?_
  go_wp2_with (fail)
  rw [show (n : Int) % 8 = ((n % 8 : Nat) : Int) from rfl]
  ((with_reducible refine (rksign_any seed (n % 8) _ text _ _ Hl.out h8 (ht.below hB1') (by omega)).mono ?_))
  rintro e w2 ⟨v2, rfl, ho2, hB2⟩
  have hB2' := hB1'.trans (hB2.mono hB1'.size)
  obtain ⟨s, hs⟩ : ∃ s, s = ksigF seed (n % 8) text := ⟨_, rfl⟩
  have hsl : s.length = 657 := by rw [hs]; exact len_ksig _ _ _ h8
  rw [← hs] at ho2
  rw [hsl] at ho2
  clear hs
  obtain ⟨g, c2, cur, rfl, hg2, hb2, hcur, hcl, hc1, hc2⟩ := own_blk ho2 (by omega)
  have hr2 := hb2.rdTake hcur hsl hc1 hc2
  obtain ⟨A3, m3, c3, hcut, hcr⟩ := Rd.cut_h slB hr2 (n : Int) (by omega) (by omega)
  rw [show ((n : Int)).toNat = n from rfl] at hcr
  obtain ⟨q, hq⟩ : ∃ q, q = s.take n := ⟨_, rfl⟩
  have hql : q.length = n := by rw [hq, List.length_take]; omega
  rw [← hq] at hcr
  clear hq
  have hqN : Hid (verN (List.replicate 32 0) text q = 0) := by show _ = _; unfold verN; rw [if_neg (by unfold okSig; omega)]
  have hqE : Hid (verE (List.replicate 32 0) text q = 2) := by show _ = _; unfold verE; rw [if_neg (by unfold okSig; omega)]
  have Hsl := hid hsl
  have Hcur := hid hcur
  have hg2' : w.heap.size ≤ g := by have := hB1'.size; omega
  clear hsl hcur hql ho2
  go_wp2_with (refine wp_bld 23 [] rfl rfl [] rfl bld25 ?_)
  rw [zs8_bvs]
  ((with_reducible refine (kverify_any (List.replicate 32 0) _ _ text q _ _ _ (hK.below hB2') (by simp) (ht.below hB2') hcr (by omega)).mono ?_))
  rintro e w4 ⟨rfl, hB4⟩
  rw [hqN.out, hqE.out]
  have hB4' := hB2'.trans (hB4.mono hB2'.size)
  have hb4 := hb2.below hB4
  clear hcut
  go_wp2_with (refine wp_st1 5 (.tmp 39) (.tmp 38) rfl rfl rfl (f := 0) rfl (v := .int .u8 (n : Int)) rfl hb4 (by omega) size8 rfl rfl ?_; intro w5 hb5 hG5; refine wp_stop ?_)
  have hB5 := hB4'.grown hG5 hB4'.size (by intro k hk; injection hk with hk; omega)
  obtain ⟨s2, hs2⟩ : ∃ s2, s2 = s.set 0 y := ⟨_, rfl⟩
  have hs2l : s2.length = 657 := by rw [hs2, List.length_set]; exact Hsl.out
  have hct : (cur.set 0 (.int .u8 (n : Int))).take 657 = bvs s2 := by
    rw [List.take_set, Hcur.out, hs2, show Value.int .u8 (n : Int) = byteV y from by rw [Hn.out]; rfl]
    simp [bvs, List.map_set]
  have hr5 := hb5.rdTake hct hs2l hc1 hc2
  have hleaf : leafOf s2 = n := by
    unfold leafOf
    rw [hs2, List.getD_eq_getElem?_getD, List.getElem?_set_self (by rw [Hsl.out]; omega), Hn.out]
    rfl
  have hbig : Hid (7 < n → verE (List.replicate 32 0) text s2 = 2) := by
    show _ → _
    intro h7
    unfold verE
    rw [if_neg (by unfold okSig; omega)]
  obtain ⟨vn, hvn⟩ : ∃ x, x = verN (List.replicate 32 0) text s2 := ⟨_, rfl⟩
  obtain ⟨ve, hve⟩ : ∃ x, x = verE (List.replicate 32 0) text s2 := ⟨_, rfl⟩
  rw [← hve] at hbig
  have HN := hid hvn
  have HE := hid hve
  clear hvn hve hct hs2 hs2l hleaf
  refine wp_go ?_
  go_wp2_with (refine wp_bld 23 [] rfl rfl [] rfl bld25 ?_)
  rw [zs8_bvs]
  ((with_reducible refine (kverify_any (List.replicate 32 0) _ _ text s2 _ _ _ (hK.below hB5) (by simp) (ht.below hB5) hr5 (by omega)).mono ?_))
  rintro e w6 ⟨rfl, hB6⟩
  rw [← HN.out, ← HE.out]
  have hB6' := hB5.trans (hB6.mono hB5.size)
  go_wp2_with (refine wp_bld 23 [] rfl rfl [] rfl bld25 ?_)
  rw [zs8_bvs]
  ((with_reducible refine (rverify_any (List.replicate 32 0) _ _ text s2 _ _ _ (by simp) (ht.below hB6') (hr5.below hB6) (by omega)).mono ?_))
  rintro e w7 ⟨rfl, hB7⟩
  rw [← HN.out, ← HE.out]
  have hB7' := hB6'.trans (hB7.mono hB6'.size)
  have e1 : (vn == vn) = true := beq_self_eq_true vn
  have e2 : (ve == ve) = true := beq_self_eq_true ve
  by_cases h7 : 7 < n
  · have hve2 : ve = 2 := hbig.out h7
    have hd : decide ((n : Int) < 8) = false := by simp; omega
    subst hve2
    go_wp2
    go_ret
    exact ⟨rfl, hB7'⟩
  · have hd : decide ((n : Int) < 8) = true := by simp; omega
    go_wp2
    go_ret
    exact ⟨rfl, hB7'⟩
end Go.Proofs.YtcbojdbmfjhkiaaDoor
