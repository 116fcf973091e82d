/- K4: layer 5: contracts of package keys: Sign. -/
import Derived.Test.YtcbojdbmfjhkiaaDoorKA
namespace Go.Proofs.YtcbojdbmfjhkiaaDoor
open Go.RowKit Go.V
/-- the digest of a level that stands beside the way -/
def besN (k n : Nat) : Nat := if k / 2 ^ n % 2 = 0 then k / 2 ^ n + 1 else k / 2 ^ n - 1
theorem besN_le (k n : Nat) (hk : k ≤ 7) : besN k n ≤ 100 := by
  have := half_le k n hk
  unfold besN
  split <;> omega
theorem besN_node (seed : List UInt8) (k n : Nat) (hk : k ≤ 7) (hn : n < 3) : nodeF seed n (besN k n) = (treeF seed 7).getD (besI k n) [] := by
  have hb : besI k n = frmF n + besN k n := by
    unfold besI besN
    obtain ⟨q, hq⟩ : ∃ q, q = k / 2 ^ n := ⟨_, rfl⟩
    rw [← hq]
    split <;> omega
  rw [hb]
  refine node_tree seed n _ (by omega) ?_
  unfold besN
  obtain rfl | rfl | rfl : n = 0 ∨ n = 1 ∨ n = 2 := by omega
  · simp [sizF]; split <;> omega
  · simp [sizF]; split <;> omega
  · simp [sizF]; split <;> omega
set_option maxRecDepth 100000 in
set_option maxHeartbeats 4000000 in
theorem ksign_in (seed : List UInt8) (k : Nat) (tv : Value) (text : List UInt8) (F : Nat → Prop) (w : World) (hK : KS w) (hl : seed.length = 32) (hk : k ≤ 7) (ht : Rd w F tv (bys text)) (hn : text.length ≤ 17592186044416) :
    Calls Tryd.prog 10 #[.agg (bvs seed).toArray, .int .i64 (k : Int), tv] w fun e w' => ∃ v', e = .returned (.tuple #[v', .int .i64 0]) ∧ w'.ownsRow w.heap.size 5 1 v' 657 (bvs (ksigF seed k text)) ∧ Below w.heap.size w w' := by
  obtain ⟨A, c, rfl⟩ := ht.shape
  have b0 := Blk.new' w 23 (bvs seed)
  have hB := (Below.refl w.heap.size w).alloc (Nat.le_refl _) (.cells (bvs seed).toArray 23)
  have hrt := ht.below hB
  have Hl := hid hl
  have hKs := hid hK
  clear hl hK
  have hne : ¬ (k : Int) < 0 := by omega
  have h8 : decide ((k : Int) ≥ 8) = false := by simp; omega
  have huk : IntKind.u8.wrap (k : Int) = (k : Int) := by rw [u8w]; omega
  have hu : Hid (bvs [] ++ [.int .u8 (k : Int)] = bvs [UInt8.ofNat k]) := by
    show _ = _
    simp only [bvs, List.map_nil, List.nil_append, List.map_cons]
    rw [byteV_of (by omega)]
  go_enter Tryd.func10, Tryd.ntmps10
  go_wp2_with (with_reducible refine wp_at 17 rfl ?_)
  obtain ⟨w0, hw0⟩ : ∃ w0, w0 = w.alloc (.cells (bvs seed).toArray 23) := ⟨_, rfl⟩
  have hw0s : w0.heap.size = w.heap.size + 1 := by rw [hw0]; simp
  rw [← hw0] at b0 hB hrt ⊢
  clear hw0
  refine wp_on ?_
  refine wp_mk0 slB rfl (.const (.int .i64 0)) (.const (.int .i64 657)) rfl rfl 657 rfl rfl (by omega) (by simp [maxLen]) ?_
  intro w1 ho1 hB1
  rw [hw0s] at ho1 ⊢
  have b1 := b0.below hB1
  have hB1' := hB.trans (hB1.mono hB.size)
  have hrt1 := hrt.below hB1
  have hs1 := hB1.size
  go_wp2_with (with_reducible refine wp_at 21 rfl ?_)
  refine wp_on ?_
  refine wp_push (.tmp 18) (.tmp 20) 21 slB rfl rfl rfl rfl rfl (u := .int .u8 (k : Int)) rfl rfl rfl (by simp) rfl ho1 (by simp [maxLen]) (by omega) (by omega) ?_
  intro v2 w2 ho2 hG2 hat2
  rw [Nat.zero_add] at ho2
  have ho2 : w2.ownsRow (w.heap.size + 1) 5 1 v2 1 (bvs [UInt8.ofNat k]) := by rw [← hu.out]; exact ho2
  have hB2 := hB1'.grown hG2 hB1'.size (fun k hk => by have := (ho1.lt k hk).1; omega)
  have b2 := b1.keep (hG2.block _ b1.lt (fun e => by have := (ho1.lt _ e.symm).1; omega))
  have hrt2 := ht.below hB2
  have hs2 := hG2.size
  go_wp2_with (refine wp_ld 23 (.tmp 3) rfl rfl rfl b2.whole und25 rfl (by rw [len_bvs, Hl.out]; exact size25) ?_)
  refine (sign_any seed (k : Int) _ text _ _ (hKs.out.below hB2) Hl.out (by omega) (by omega) hrt2 hn).mono ?_
  rintro e w3 ⟨v3, rfl, hr3, hB3⟩
  have hB3' := hB2.trans (hB3.mono hB2.size)
  have ho3 := own_keepB ho2 hB3
  obtain ⟨sg, hsg⟩ : ∃ sg, sg = sigF seed (k : Int) text := ⟨_, rfl⟩
  rw [← hsg] at hr3
  have hgl : Hid (sg.length = 560) := by show _ = _; rw [hsg]; exact len_sig _ _ _
  have Hsg := hid hsg
  clear hsg
  obtain ⟨A3, c3, rfl⟩ := hr3.shape
  have hs3 := hr3.src
  rw [hgl.out] at hs3 ⊢
  have hz3 := hB3.size
  have b3 := b2.below hB3
  go_wp2_with (with_reducible refine wp_at 28 rfl ?_)
  refine wp_on ?_
  refine wp_app (.tmp 23) (.tmp 27) slB rfl rfl rfl ho3 rfl hs3 (oneCell_bvs sg) (by simp [maxLen]) (by omega) (by omega) ?_
  intro v4 w4 ho4 hG4 hat4
  rw [show bvs [UInt8.ofNat k] ++ bvs sg = bvs ([UInt8.ofNat k] ++ sg) from by simp [bvs]] at ho4
  have hB4 := hB3'.grown hG4 hB3'.size (fun k hk => by have := (ho3.lt k hk).1; omega)
  have hz4 := hG4.size
  have b4 := b3.keep (hG4.block _ b3.lt (fun e => by have := (ho3.lt _ e.symm).1; omega))
  clear ho1 ho2 ho3 b1 b2 b3 hrt1 hrt2 hrt hB3 hB3' hB2 hB1 hB1' hB hr3 hs3 hG2 hG4 hat2 hat4 b0 huk hu
  obtain ⟨pre, hpre⟩ : ∃ pre, pre = [UInt8.ofNat k] ++ sg := ⟨_, rfl⟩
  rw [← hpre] at ho4
  have Hpre := hid hpre
  clear hpre
  go_wp2_with (fail)
  go_loopw [8, 9, 10, 29] (fun bv lv pv iv wr => ∃ n : Nat, n ≤ 3 ∧ iv = .int .i64 n ∧ wr.ownsRow (w.heap.size + 1) 5 1 bv (561 + 32 * n) (bvs (pre ++ (pathT seed k n).flatten)) ∧ Blk wr w.heap.size 23 (bvs seed) ∧ Below w.heap.size w wr) (fun _ _ _ iv _ => 3 - (intOf iv).toNat)
  case atStart => exact ⟨0, by omega, rfl, by simpa [pathT, besL] using ho4, b4, hB4⟩
  case round =>
    obtain ⟨n, hn3, rfl, ho, c0, hBr⟩ := hrel
    have hbs := hBr.size
    have hc0l := c0.lt
    by_cases hlt : n < 3
    · obtain ⟨q, hq⟩ : ∃ q, q = (treeF seed 7).getD (besI k n) [] := ⟨_, rfl⟩
      have Hql : Hid (q.length = 32) := by show _ = _; rw [hq, ← besN_node seed k n hk hlt]; exact len_node _ _ _
      have Hq : Hid (nodeF seed n (besN k n) = q) := by show _ = _; rw [hq]; exact besN_node seed k n hk hlt
      have Hst : Hid (bvs (pre ++ (pathT seed k n).flatten) ++ bvs q = bvs (pre ++ (pathT seed k (n + 1)).flatten)) := by
        show _ = _
        rw [hq]
        unfold pathT
        rw [bes_succ, List.map_append, List.flatten_append, ← bvs_app, List.append_assoc]
        simp
      clear hq
      have HKS : Hid (∀ W, Ch nob wr W → KS W) := fun W h => (hKs.out.below hBr).below h.below
      go_wp2
      refine wp_region_noPanic ?_
      refine wp_region_held_drew (S := Ch nob wr) (by kernel_rfl) ((Ch.refl _ _).drew) (fun hHeld => ?_)
      refine wpAnyH_take (i := 0) (oi := ⟨some 32, .load 23 (.tmp 3), _, _, _, none⟩) (v := _) rfl (by kernel_rfl) (by kernel_rfl) (by kernel_rfl) (fun _ _ _ h => h) (yieldsIf_load_mid (by rfl) 23 (.tmp 3) (by rfl) _ (0) (by rfl) _ _ (fun _ hs => c0.chAt (fun h => h) hs) und25 rfl (by rw [len_bvs, Hl.out]; exact size25)) (by assumption) ?_
      try simp only [Act.put, List.setIfInBounds_toArray, List.set_cons_zero, List.set_cons_succ]
      refine wpAnyH_take (i := 1) (oi := ⟨some 33, _, _, _, _, none⟩) (v := ?_) rfl (by kernel_rfl) (by kernel_rfl) (by kernel_rfl) (fun _ _ _ h => h) (Or.inl ⟨by rfl, ?_⟩) (by assumption) ?_
      rotate_left
      · intro w hSw; go_simp; try with_reducible rfl
      try simp only [Act.put, List.setIfInBounds_toArray, List.set_cons_zero, List.set_cons_succ]
      refine wpAnyH_take (i := 2) (oi := ⟨some 34, _, _, _, _, none⟩) (v := ?_) rfl (by kernel_rfl) (by kernel_rfl) (by kernel_rfl) (fun _ _ _ h => h) (Or.inl ⟨by rfl, ?_⟩) (by assumption) ?_
      rotate_left
      · intro w hSw; go_simp; try with_reducible rfl
      try simp only [Act.put, List.setIfInBounds_toArray, List.set_cons_zero, List.set_cons_succ]
      refine wpAnyH_take (i := 3) (oi := ⟨some 35, _, _, _, _, none⟩) (v := ?_) rfl (by kernel_rfl) (by kernel_rfl) (by kernel_rfl) (fun _ _ _ h => h) (Or.inl ⟨by rfl, ?_⟩) (by assumption) ?_
      rotate_left
      · intro w hSw; go_simp; try with_reducible rfl
      try simp only [Act.put, List.setIfInBounds_toArray, List.set_cons_zero, List.set_cons_succ]
      refine wpAnyH_take (i := 4) (oi := ⟨some 36, _, _, _, _, none⟩) (v := ?_) rfl (by kernel_rfl) (by kernel_rfl) (by kernel_rfl) (fun _ _ _ h => h) (Or.inl ⟨by rfl, ?_⟩) (by assumption) ?_
      rotate_left
      · intro w hSw; go_simp; try with_reducible rfl
      try simp only [Act.put, List.setIfInBounds_toArray, List.set_cons_zero, List.set_cons_succ]
      refine wpAnyH_take (i := 5) (oi := ⟨some 37, _, _, _, _, none⟩) (v := ?_) rfl (by kernel_rfl) (by kernel_rfl) (by kernel_rfl) (fun _ _ _ h => h) (Or.inl ⟨by rfl, ?_⟩) (by assumption) ?_
      rotate_left
      · intro w hSw; go_simp; try with_reducible rfl
      try simp only [Act.put, List.setIfInBounds_toArray, List.set_cons_zero, List.set_cons_succ]
      refine wpAnyH_ready (rs := [6, 7]) (by kernel_rfl) (by simp) ?_
      refine AllReadyH.cons (o := ⟨some 38, _, _, _, _, none⟩) rfl (fun K hK => ?_) ?_
      · go_simp
        refine (node_any seed Hl.out n (by omega) _ rfl _ (besN k n) (xor_1 k n hk) _ (HKS.out _ hHeld) (besN_le k n hk)).mono ?_
        rintro e' w6 ⟨rfl, hB6⟩
        rw [Hq.out]
        refine hK.out _ _ (hHeld.belowG hB6) (fun hHeld => ?_)
        clear hK K
        try simp only [Act.put, List.setIfInBounds_toArray, List.set_cons_zero, List.set_cons_succ]
        refine wpAnyH_ready (rs := [7]) (by kernel_rfl) (by simp) ?_
        refine AllReadyH.cons (o := ⟨some 10, .alloc 23, _, _, _, none⟩) rfl (fun K hK => ?_) AllReadyH.nil
        refine step_new 23 (by rfl) (by rfl) zero25 ?_
        intro g9 w9 hg9 hgl9 hz9 hB9
        have hg9 : wr.heap.size ≤ g9 := Nat.le_trans hHeld.size hg9
        refine hK.out _ _ (hHeld.belowG hB9) (fun hHeld => ?_)
        clear hK K
        try simp only [Act.put, List.setIfInBounds_toArray, List.set_cons_zero, List.set_cons_succ]
        refine wpAnyH_ready (rs := [8]) (by kernel_rfl) (by simp) ?_
        refine AllReadyH.cons (o := ⟨none, .store 23 (.tmp 10) (.tmp 38), _, _, _, none⟩) rfl (fun K hK => ?_) AllReadyH.nil
        refine step_st 23 (.tmp 10) (.tmp 38) (by rfl) (by rfl) (by rfl) (f := 0) (by rfl) (l := bvs q) (by rfl) hz9 (by simp [zs8, len_bvs, Hql.out]) (by rw [len_bvs, Hql.out]; exact size25) (oneCell_bvs _) ?_
        intro w10 hz10 hG10
        refine hK.out _ _ (hHeld.grow hG10 (fun k hk => .inr (by injection hk with hk; omega))) (fun hHeld => ?_)
        clear hK K
        try simp only [Act.put, List.setIfInBounds_toArray, List.set_cons_zero, List.set_cons_succ]
        refine wpAnyH_done (by kernel_rfl) ?_ _
        refine NoPanic.normal ?_
        rw [set25 _ Hql.out] at hz10
        have hBa := hHeld.below
        have hBb := hBr.trans (hBa.mono hbs)
        have c10 := c0.below hBa
        have ho10 := own_keepB ho hBa
        have hsl := fun W => run_sla_all und25 size8 g9 0 (by omega) W
        have hs10 := (Blk.rdcut hz10 32 32 (by rw [Hql.out]; omega) (by omega) (by simp [maxLen])).src
        rw [List.take_of_length_le (by rw [Hql.out]; omega), Hql.out] at hs10
        go_wp2_with (with_reducible refine wp_at 41 rfl ?_)
        refine wp_on ?_
        refine wp_app (.tmp 39) (.tmp 40) slB rfl rfl rfl ho10 rfl hs10 (oneCell_bvs q) (by simp only [maxLen]; omega) (by omega) (by have := hBa.size; omega) ?_
        intro v11 w11 ho11 hG11 hat11
        rw [Hst.out] at ho11
        have hB11 := hBb.grown hG11 hBb.size (fun k hk => by have := (ho10.lt k hk).1; omega)
        have c11 := c10.keep (hG11.block _ c10.lt (fun e => by have := (ho10.lt _ e.symm).1; omega))
        go_wp2
        go_roundw
        case rel => exact ⟨n + 1, by omega, by go_num, ho11, c11, hB11⟩
        case measure => simp [intOf]; omega
      refine AllReadyH.cons (o := ⟨some 10, .alloc 23, _, _, _, none⟩) rfl (fun K hK => ?_) AllReadyH.nil
      refine step_new 23 (by rfl) (by rfl) zero25 ?_
      intro g9 w9 hg9 hgl9 hz9 hB9
      have hg9 : wr.heap.size ≤ g9 := Nat.le_trans hHeld.size hg9
      refine hK.out _ _ (hHeld.belowG hB9) (fun hHeld => ?_)
      clear hK K
      try simp only [Act.put, List.setIfInBounds_toArray, List.set_cons_zero, List.set_cons_succ]
      refine wpAnyH_ready (rs := [6]) (by kernel_rfl) (by simp) ?_
      refine AllReadyH.cons (o := ⟨some 38, _, _, _, _, none⟩) rfl (fun K hK => ?_) AllReadyH.nil
      go_simp
      refine (node_any seed Hl.out n (by omega) _ rfl _ (besN k n) (xor_1 k n hk) _ (HKS.out _ hHeld) (besN_le k n hk)).mono ?_
      rintro e' w6 ⟨rfl, hB6⟩
      rw [Hq.out]
      have hz9 := hz9.below hB6
      refine hK.out _ _ (hHeld.belowG hB6) (fun hHeld => ?_)
      clear hK K
      try simp only [Act.put, List.setIfInBounds_toArray, List.set_cons_zero, List.set_cons_succ]
      refine wpAnyH_ready (rs := [8]) (by kernel_rfl) (by simp) ?_
      refine AllReadyH.cons (o := ⟨none, .store 23 (.tmp 10) (.tmp 38), _, _, _, none⟩) rfl (fun K hK => ?_) AllReadyH.nil
      refine step_st 23 (.tmp 10) (.tmp 38) (by rfl) (by rfl) (by rfl) (f := 0) (by rfl) (l := bvs q) (by rfl) hz9 (by simp [zs8, len_bvs, Hql.out]) (by rw [len_bvs, Hql.out]; exact size25) (oneCell_bvs _) ?_
      intro w10 hz10 hG10
      refine hK.out _ _ (hHeld.grow hG10 (fun k hk => .inr (by injection hk with hk; omega))) (fun hHeld => ?_)
      clear hK K
      try simp only [Act.put, List.setIfInBounds_toArray, List.set_cons_zero, List.set_cons_succ]
      refine wpAnyH_done (by kernel_rfl) ?_ _
      refine NoPanic.normal ?_
      rw [set25 _ Hql.out] at hz10
      have hBa := hHeld.below
      have hBb := hBr.trans (hBa.mono hbs)
      have c10 := c0.below hBa
      have ho10 := own_keepB ho hBa
      have hsl := fun W => run_sla_all und25 size8 g9 0 (by omega) W
      have hs10 := (Blk.rdcut hz10 32 32 (by rw [Hql.out]; omega) (by omega) (by simp [maxLen])).src
      rw [List.take_of_length_le (by rw [Hql.out]; omega), Hql.out] at hs10
      go_wp2_with (with_reducible refine wp_at 41 rfl ?_)
      refine wp_on ?_
      refine wp_app (.tmp 39) (.tmp 40) slB rfl rfl rfl ho10 rfl hs10 (oneCell_bvs q) (by simp only [maxLen]; omega) (by omega) (by have := hBa.size; omega) ?_
      intro v11 w11 ho11 hG11 hat11
      rw [Hst.out] at ho11
      have hB11 := hBb.grown hG11 hBb.size (fun k hk => by have := (ho10.lt k hk).1; omega)
      have c11 := c10.keep (hG11.block _ c10.lt (fun e => by have := (ho10.lt _ e.symm).1; omega))
      go_wp2
      go_roundw
      case rel => exact ⟨n + 1, by omega, by go_num, ho11, c11, hB11⟩
      case measure => simp [intOf]; omega
    · have h33 : n = 3 := by omega
      subst h33
      have Hk : Hid (pre ++ (pathT seed k 3).flatten = ksigF seed k text) := by show _ = _; rw [Hpre.out, Hsg.out]; rfl
      rw [Hk.out] at ho
      go_wp2
      go_ret2
      exact ⟨_, rfl, own_base ho (by omega), hBr⟩
theorem Rd.nil0 (w : World) (F : Nat → Prop) : Rd w F (.slice none 0 0) (bys []) := by
  unfold bys Rd
  exact ⟨none, 0, rfl, Nat.le_refl _, by simp [maxLen], fun _ => rfl, fun h => absurd rfl h⟩
set_option maxRecDepth 100000 in
set_option maxHeartbeats 1000000 in
theorem ksign_any (seed : List UInt8) (k : Int) (tv : Value) (text : List UInt8) (F : Nat → Prop) (w : World) (hK : KS w) (hl : seed.length = 32) (h1 : -9223372036854775808 ≤ k) (h2 : k ≤ 9223372036854775807) (ht : Rd w F tv (bys text)) (hn : text.length ≤ 17592186044416) :
    Calls Tryd.prog 10 #[.agg (bvs seed).toArray, .int .i64 k, tv] w fun e w' => ∃ v', e = .returned (.tuple #[v', .int .i64 (ksE k)]) ∧ Rd w' (fun b => w.heap.size ≤ b) v' (bys (ksS seed k text)) ∧ Below w.heap.size w w' := by
  by_cases hin : 0 ≤ k ∧ k ≤ 7
  · obtain ⟨n, rfl⟩ := Int.eq_ofNat_of_zero_le hin.1
    have hE : ksE (n : Int) = 0 := if_pos hin
    have hS : ksS seed (n : Int) text = ksigF seed n text := if_pos hin
    rw [hE, hS]
    refine (ksign_in seed n tv text F w hK hl (by omega) ht hn).mono ?_
    rintro e w' ⟨v', rfl, ho, hB⟩
    have hk := len_ksig seed n text (by omega)
    exact ⟨v', rfl, Rd.of_own ho, hB⟩
  · have HE : Hid (ksE k = 3) := if_neg hin
    have HS : Hid (ksS seed k text = []) := if_neg hin
    obtain ⟨A, c, rfl⟩ := ht.shape
    have hB := (Below.refl w.heap.size w).alloc (Nat.le_refl _) (.cells (bvs seed).toArray 23)
    by_cases hneg : k < 0
    · clear hin
      go_enter Tryd.func10, Tryd.ntmps10
      go_wp2
      go_ret2
      exact ⟨_, by rw [HE.out]; rfl, by rw [HS.out]; exact Rd.nil0 _ _, hB⟩
    · have h8 : decide (k ≥ 8) = true := by simp; omega
      clear hin
      go_enter Tryd.func10, Tryd.ntmps10
      go_wp2
      go_ret2
      exact ⟨_, by rw [HE.out]; rfl, by rw [HS.out]; exact Rd.nil0 _ _, hB⟩
set_option maxRecDepth 100000 in
set_option maxHeartbeats 4000000 in
theorem kverify_any (root : List UInt8) (tv sv : Value) (text sig : List UInt8) (F G : Nat → Prop) (w : World) (hK : KS w) (hr : root.length = 32) (ht : Rd w F tv (bys text)) (hs : Rd w G sv (bys sig)) (hn : text.length ≤ 17592186044416) :
    Calls Tryd.prog 11 #[.agg (bvs root).toArray, tv, sv] w fun e w' => e = .returned (.tuple #[.int .i64 (verN root text sig), .int .i64 (verE root text sig)]) ∧ Below w.heap.size w w' := by
  obtain ⟨At, ct, rfl⟩ := ht.shape
  have hs := hs.weak (F' := fun b => b < w.heap.size) (fun b hb _ => hb)
  obtain ⟨As, cs, rfl⟩ := hs.shape
  have Hr := hid hr
  have hKs := hid hK
  clear hr hK
  have hrd := Blk.new' w 23 (bvs root)
  have hB := (Below.refl w.heap.size w).alloc (Nat.le_refl _) (.cells (bvs root).toArray 23)
  have hs0 := hs.below hB
  by_cases h657 : sig.length = 657
  · obtain ⟨gs, os, rfl, hgs, hc0⟩ := hs0.byteAt 0 (by omega)
    obtain ⟨x, hx⟩ : ∃ x, x = sig[0]'(by omega) := ⟨_, rfl⟩
    have hleaf : leafOf sig = x.toNat := by rw [hx]; simp [leafOf, List.getD, List.getElem?_eq_getElem (show 0 < sig.length by omega)]
    rw [← hx, Nat.add_zero] at hc0
    rw [h657] at hs hs0 ⊢
    have hx256 := x.toNat_lt
    have hne : ((657 : Int) != 657) = false := by decide
    by_cases h7 : 7 < x.toNat
    · have HN : Hid (verN root text sig = 0) := by show _ = _; unfold verN; rw [if_neg (by unfold okSig; omega)]
      have HE : Hid (verE root text sig = 2) := by show _ = _; unfold verE; rw [if_neg (by unfold okSig; omega)]
      have hge : decide ((x.toNat : Int) ≥ 8) = true := by simp; omega
      clear hleaf hx h657
      go_enter Tryd.func11, Tryd.ntmps11
      go_wp2
      go_ret2
      exact ⟨by rw [HN.out, HE.out]; rfl, hB⟩
    · have HOK : okSig sig := by unfold okSig; omega
      have HN : Hid (verN root text sig = if topF text sig = root then (leafOf sig : Int) else 0) := by show _ = _; unfold verN; rw [if_pos HOK]
      have HE : Hid (verE root text sig = if topF text sig = root then 0 else 5) := by show _ = _; unfold verE; rw [if_pos HOK]
      obtain ⟨k, hk⟩ : ∃ k, k = x.toNat := ⟨_, rfl⟩
      rw [← hk] at hleaf hc0 h7 hx256
      have hk7 : k ≤ 7 := by omega
      have hge : decide ((k : Int) ≥ 8) = false := by simp; omega
      have HL := hid hleaf
      have Hs := hid h657
      obtain ⟨A2, m2, c2, hcut, hcr⟩ := Rd.cut slB hs0 1 561 (by omega) (by omega) (by omega)
      rw [show (561 : Int).toNat - (1 : Int).toNat = 560 from rfl, show (1 : Int).toNat = 1 from rfl] at hcr
      have hl1 : ((sig.drop 1).take 560).length = 560 := by rw [List.length_take, List.length_drop]; omega
      obtain ⟨s1, hs1⟩ : ∃ s1, s1 = (sig.drop 1).take 560 := ⟨_, rfl⟩
      rw [← hs1] at hcr hl1
      obtain ⟨pub, hpub⟩ : ∃ pub, pub = recF text s1 := ⟨_, rfl⟩
      have hpl : Hid (pub.length = 32) := by show _ = _; rw [hpub]; exact len_rec _ _
      have hrec : Hid (recH text s1 = pub) := by show _ = _; unfold recH; rw [if_pos hl1, hpub]
      have hree : Hid (recE s1 = 0) := if_pos hl1
      have htop : Hid (topF text sig = upF pub sig k 3) := by show _ = _; rw [hpub, hs1, ← hleaf]; rfl
      clear hx hk hleaf HOK h657 hl1 hs1 hpub
      go_enter Tryd.func11, Tryd.ntmps11
      go_wp2_with (fail)
      refine (recover_any _ _ text s1 _ _ _ (hKs.out.below hB) (ht.below hB) hcr hn).mono ?_
      rintro e w1 ⟨rfl, hB1⟩
      rw [hrec.out, hree.out]
      have hB1' := hB.trans (hB1.mono hB.size)
      have hrd1 := hrd.below hB1
      have hs1 := hs0.below hB1
      have hn9 := Blk.new' w1 23 (zs8 32)
      have hB2 := hB1'.alloc hB1'.size (.cells (zs8 32).toArray 23)
      have hrd2 := hrd1.alloc (.cells (zs8 32).toArray 23)
      have hs2 := hs1.below ((Below.refl _ _).alloc (Nat.le_refl _) (.cells (zs8 32).toArray 23))
      have hz1 := hB1'.size
      have hrl1 := hrd1.lt
      go_wp2_with (first | (refine wp_new 23 rfl rfl zero25 ?_) | (refine wp_st 23 (.tmp 9) (.tmp 29) rfl rfl rfl (f := 0) rfl (l := bvs pub) rfl hn9 (by simp [zs8, len_bvs, hpl.out]) (by rw [len_bvs, hpl.out]; exact size25) (oneCell_bvs _) ?_; intro w3 hb3 hG3; refine wp_stop ?_))
      rw [set25 _ hpl.out] at hb3
      have hB3 := hB2.grown hG3 hB2.size (by intro k hk; injection hk with hk; omega)
      have hrd3 := hrd2.keep (hG3.block _ hrd2.lt (by intro e; injection e with e; omega))
      have hs3 := hs2.keep (F' := fun b => b < w.heap.size) (fun b hb hf => ⟨hf, hG3.block b hb (by intro e; injection e with e; omega)⟩)
      obtain ⟨g9, hg9⟩ : ∃ g, g = w1.heap.size := ⟨_, rfl⟩
      rw [← hg9] at hb3 ⊢
      obtain ⟨g3, hg3⟩ : ∃ g, g = w.heap.size := ⟨_, rfl⟩
      rw [← hg3] at hrd3 ⊢
      obtain ⟨A5, m5, c5, hcut5, hcr5⟩ := Rd.cut_l slB hs3 561 (by omega) (by rw [Hs.out]; omega)
      rw [show (561 : Int).toNat = 561 from rfl] at hcr5
      have HCR : Hid (∀ W, Ch nob w3 W → Rd W _ (.slice A5 m5 c5) (bys (sig.drop 561))) := fun W h => hcr5.ext h
      have HKS : Hid (∀ W, Ch nob w3 W → KS W) := fun W h => (hKs.out.below hB3).below h.below
      obtain ⟨u, hu⟩ : ∃ u, u = upF pub sig k 3 := ⟨_, rfl⟩
      have Hul : Hid (u.length = 32) := by show _ = _; rw [hu]; exact len_up _ _ _ hpl.out 3
      have Hup : Hid (upF pub sig k 3 = u) := hu.symm
      clear hu hg9 hg3 hrd hrd1 hrd2 hs0 hs1 hs2 hs3 hn9 hG3 hcr hcut hc0 hne hcr5
      by_cases hxr : u = root
      · have HN2 : Hid (verN root text sig = (k : Int)) := by show _ = _; rw [HN.out, htop.out, Hup.out, if_pos hxr, HL.out]
        have HE2 : Hid (verE root text sig = 0) := by show _ = _; rw [HE.out, htop.out, Hup.out, if_pos hxr]
        have heq := eqH u root Hul.out Hr.out
        rw [show (u == root) = true from by simp [hxr]] at heq
        clear hxr
        refine wp_go ?_
        go_wp2
        refine wp_region_noPanic ?_
        refine wp_region_held_drew (S := Ch nob w3) (by kernel_rfl) ((Ch.refl _ _).drew) (fun hHeld => ?_)
        refine wpAnyH_take (i := 0) (oi := ⟨some 34, .load 23 (.tmp 9), _, _, _, none⟩) (v := _) rfl (by kernel_rfl) (by kernel_rfl) (by kernel_rfl) (fun _ _ _ h => h) (yieldsIf_load_mid (by rfl) 23 (.tmp 9) (by rfl) _ (0) (by rfl) _ _ (fun _ hs => hb3.chAt (fun h => h) hs) und25 rfl (by rw [len_bvs, hpl.out]; exact size25)) (by assumption) ?_
        try simp only [Act.put, List.setIfInBounds_toArray, List.set_cons_zero, List.set_cons_succ]
        refine wpAnyH_take (i := 1) (oi := ⟨some 35, _, _, _, _, none⟩) (v := ?_) rfl (by kernel_rfl) (by kernel_rfl) (by kernel_rfl) (fun _ _ _ h => h) (Or.inl ⟨by rfl, ?_⟩) (by assumption) ?_
        rotate_left
        · intro w hSw; go_simp; try with_reducible rfl
        try simp only [Act.put, List.setIfInBounds_toArray, List.set_cons_zero, List.set_cons_succ]
        refine wpAnyH_take (i := 2) (oi := ⟨some 36, _, _, _, _, none⟩) (v := ?_) rfl (by kernel_rfl) (by kernel_rfl) (by kernel_rfl) (fun _ _ _ h => h) (Or.inl ⟨by rfl, ?_⟩) (by assumption) ?_
        rotate_left
        · intro w hSw; go_simp; try with_reducible rfl
        try simp only [Act.put, List.setIfInBounds_toArray, List.set_cons_zero, List.set_cons_succ]
        refine wpAnyH_take (i := 3) (oi := ⟨some 37, _, _, _, _, none⟩) (v := ?_) rfl (by kernel_rfl) (by kernel_rfl) (by kernel_rfl) (fun _ _ _ h => h) (Or.inl ⟨by rfl, ?_⟩) (by assumption) ?_
        rotate_left
        · intro w hSw; go_simp; try with_reducible rfl
        try simp only [Act.put, List.setIfInBounds_toArray, List.set_cons_zero, List.set_cons_succ]
        refine wpAnyH_take (i := 5) (oi := ⟨some 39, .load 23 (.tmp 3), _, _, _, none⟩) (v := _) rfl (by kernel_rfl) (by kernel_rfl) (by kernel_rfl) (fun _ _ _ h => h) (yieldsIf_load_mid (by rfl) 23 (.tmp 3) (by rfl) _ (0) (by rfl) _ _ (fun _ hs => hrd3.chAt (fun h => h) hs) und25 rfl (by rw [len_bvs, Hr.out]; exact size25)) (by assumption) ?_
        try simp only [Act.put, List.setIfInBounds_toArray, List.set_cons_zero, List.set_cons_succ]
        refine wpAnyH_ready (rs := [4]) (by kernel_rfl) (by simp) ?_
        refine AllReadyH.cons (o := ⟨some 38, _, _, _, _, none⟩) rfl (fun K hK => ?_) AllReadyH.nil
        go_simp
        refine (climbed_any pub sig k _ _ _ (HKS.out _ hHeld) hpl.out Hs.out hk7 (HCR.out _ hHeld)).mono ?_
        rintro e' w6 ⟨rfl, hB6⟩
        rw [Hup.out]
        refine hK.out _ _ (hHeld.belowG hB6) (fun hHeld => ?_)
        clear hK K
        try simp only [Act.put, List.setIfInBounds_toArray, List.set_cons_zero, List.set_cons_succ]
        refine wpAnyH_take (i := 6) (oi := ⟨some 40, _, _, _, _, none⟩) (v := ?_) rfl (by kernel_rfl) (by kernel_rfl) (by kernel_rfl) (fun _ _ _ h => h) (Or.inl ⟨by rfl, ?_⟩) (by assumption) ?_
        rotate_left
        · intro w hSw; go_simp; try with_reducible rfl
        try simp only [Act.put, List.setIfInBounds_toArray, List.set_cons_zero, List.set_cons_succ]
        refine wpAnyH_done (by kernel_rfl) ?_ _
        refine NoPanic.normal ?_
        have hBz := hB3.trans (hHeld.below.mono hB3.size)
        go_wp2
        go_ret2
        exact ⟨by rw [HN2.out, HE2.out]; rfl, hBz⟩
      · have HN2 : Hid (verN root text sig = 0) := by show _ = _; rw [HN.out, htop.out, Hup.out, if_neg hxr]
        have HE2 : Hid (verE root text sig = 5) := by show _ = _; rw [HE.out, htop.out, Hup.out, if_neg hxr]
        have heq := eqH u root Hul.out Hr.out
        rw [show (u == root) = false from by simp [hxr]] at heq
        clear hxr
        refine wp_go ?_
        go_wp2
        refine wp_region_noPanic ?_
        refine wp_region_held_drew (S := Ch nob w3) (by kernel_rfl) ((Ch.refl _ _).drew) (fun hHeld => ?_)
        refine wpAnyH_take (i := 0) (oi := ⟨some 34, .load 23 (.tmp 9), _, _, _, none⟩) (v := _) rfl (by kernel_rfl) (by kernel_rfl) (by kernel_rfl) (fun _ _ _ h => h) (yieldsIf_load_mid (by rfl) 23 (.tmp 9) (by rfl) _ (0) (by rfl) _ _ (fun _ hs => hb3.chAt (fun h => h) hs) und25 rfl (by rw [len_bvs, hpl.out]; exact size25)) (by assumption) ?_
        try simp only [Act.put, List.setIfInBounds_toArray, List.set_cons_zero, List.set_cons_succ]
        refine wpAnyH_take (i := 1) (oi := ⟨some 35, _, _, _, _, none⟩) (v := ?_) rfl (by kernel_rfl) (by kernel_rfl) (by kernel_rfl) (fun _ _ _ h => h) (Or.inl ⟨by rfl, ?_⟩) (by assumption) ?_
        rotate_left
        · intro w hSw; go_simp; try with_reducible rfl
        try simp only [Act.put, List.setIfInBounds_toArray, List.set_cons_zero, List.set_cons_succ]
        refine wpAnyH_take (i := 2) (oi := ⟨some 36, _, _, _, _, none⟩) (v := ?_) rfl (by kernel_rfl) (by kernel_rfl) (by kernel_rfl) (fun _ _ _ h => h) (Or.inl ⟨by rfl, ?_⟩) (by assumption) ?_
        rotate_left
        · intro w hSw; go_simp; try with_reducible rfl
        try simp only [Act.put, List.setIfInBounds_toArray, List.set_cons_zero, List.set_cons_succ]
        refine wpAnyH_take (i := 3) (oi := ⟨some 37, _, _, _, _, none⟩) (v := ?_) rfl (by kernel_rfl) (by kernel_rfl) (by kernel_rfl) (fun _ _ _ h => h) (Or.inl ⟨by rfl, ?_⟩) (by assumption) ?_
        rotate_left
        · intro w hSw; go_simp; try with_reducible rfl
        try simp only [Act.put, List.setIfInBounds_toArray, List.set_cons_zero, List.set_cons_succ]
        refine wpAnyH_take (i := 5) (oi := ⟨some 39, .load 23 (.tmp 3), _, _, _, none⟩) (v := _) rfl (by kernel_rfl) (by kernel_rfl) (by kernel_rfl) (fun _ _ _ h => h) (yieldsIf_load_mid (by rfl) 23 (.tmp 3) (by rfl) _ (0) (by rfl) _ _ (fun _ hs => hrd3.chAt (fun h => h) hs) und25 rfl (by rw [len_bvs, Hr.out]; exact size25)) (by assumption) ?_
        try simp only [Act.put, List.setIfInBounds_toArray, List.set_cons_zero, List.set_cons_succ]
        refine wpAnyH_ready (rs := [4]) (by kernel_rfl) (by simp) ?_
        refine AllReadyH.cons (o := ⟨some 38, _, _, _, _, none⟩) rfl (fun K hK => ?_) AllReadyH.nil
        go_simp
        refine (climbed_any pub sig k _ _ _ (HKS.out _ hHeld) hpl.out Hs.out hk7 (HCR.out _ hHeld)).mono ?_
        rintro e' w6 ⟨rfl, hB6⟩
        rw [Hup.out]
        refine hK.out _ _ (hHeld.belowG hB6) (fun hHeld => ?_)
        clear hK K
        try simp only [Act.put, List.setIfInBounds_toArray, List.set_cons_zero, List.set_cons_succ]
        refine wpAnyH_take (i := 6) (oi := ⟨some 40, _, _, _, _, none⟩) (v := ?_) rfl (by kernel_rfl) (by kernel_rfl) (by kernel_rfl) (fun _ _ _ h => h) (Or.inl ⟨by rfl, ?_⟩) (by assumption) ?_
        rotate_left
        · intro w hSw; go_simp; try with_reducible rfl
        try simp only [Act.put, List.setIfInBounds_toArray, List.set_cons_zero, List.set_cons_succ]
        refine wpAnyH_done (by kernel_rfl) ?_ _
        refine NoPanic.normal ?_
        have hBz := hB3.trans (hHeld.below.mono hB3.size)
        go_wp2
        go_ret2
        exact ⟨by rw [HN2.out, HE2.out]; rfl, hBz⟩
  · have HN : Hid (verN root text sig = 0) := by show _ = _; unfold verN; rw [if_neg (by unfold okSig; omega)]
    have HE : Hid (verE root text sig = 2) := by show _ = _; unfold verE; rw [if_neg (by unfold okSig; omega)]
    have hne : ((sig.length : Int) != 657) = true := by rw [bne_iff_ne]; omega
    clear h657
    go_enter Tryd.func11, Tryd.ntmps11
    go_wp2
    go_ret2
    exact ⟨by rw [HN.out, HE.out]; rfl, hB⟩
/-- the first i digests, the rest noughts -/
def rowC (f : Nat → List UInt8) (n i : Nat) : List Value := bvs ((List.range i).map f).flatten ++ zs8 (32 * (n - i))
theorem rowC_flat (f : Nat → List UInt8) (hf : ∀ c, (f c).length = 32) (i : Nat) : (((List.range i).map f).flatten).length = 32 * i := by
  rw [flatten_len32 _ (by intro x hx; obtain ⟨k, _, rfl⟩ := List.mem_map.1 hx; exact hf _)]
  simp
theorem rowC_len (f : Nat → List UInt8) (hf : ∀ c, (f c).length = 32) (n i : Nat) (hi : i ≤ n) : (rowC f n i).length = 32 * n := by
  rw [rowC, List.length_append, len_bvs, rowC_flat f hf]
  simp [zs8]; omega
theorem rowC_set (f : Nat → List UInt8) (hf : ∀ c, (f c).length = 32) (n i : Nat) (hi : i < n) :
    (rowC f n i).take (i * 32) ++ bvs (f i) ++ (rowC f n i).drop (i * 32 + (bvs (f i)).length) = rowC f n (i + 1) := by
  have hl : (bvs ((List.range i).map f).flatten).length = i * 32 := by rw [len_bvs, rowC_flat f hf]; omega
  have e1 : bvs ((List.range (i + 1)).map f).flatten = bvs ((List.range i).map f).flatten ++ bvs (f i) := by
    rw [List.range_succ]
    simp [bvs]
  unfold rowC
  rw [e1, len_bvs, hf, List.take_append_of_le_length (by omega), List.take_of_length_le (by omega), List.drop_append, List.drop_of_length_le (by omega), List.nil_append, hl, show i * 32 + 32 - i * 32 = 32 from by omega]
  congr 1
  unfold zs8
  rw [List.drop_replicate]
  congr 1
  omega
theorem sizeS : (Tryd.prog.info? 24).map (·.size) = some 1 := by kernel_rfl
theorem sizeK : (Tryd.prog.info? 42).map (·.size) = some 2 := by kernel_rfl
theorem zeroK : (Tryd.prog.info? 42).map (·.zero) = some (some (.agg [.slice none 0 0, .slice none 0 0].toArray)) := by kernel_rfl
theorem undK : ∃ d, Tryd.prog.underlying 42 = some d ∧ d.isRow = true := by
  have h : (Tryd.prog.underlying 42).map (·.isRow) = some true := by kernel_rfl
  cases hq : Tryd.prog.underlying 42 with
  | none => rw [hq] at h; cases h
  | some d => exact ⟨d, rfl, by rw [hq] at h; injection h⟩
set_option maxRecDepth 100000 in
set_option maxHeartbeats 4000000 in
/-- the table: sixteen seals, six roots -/
theorem table_any (m : List UInt8) (w : World) (hK : KS w) (hm : m.length = 32) :
    Calls Tryd.prog 15 #[.agg (bvs m).toArray] w fun e w' => ∃ sv g c, e = .returned (.agg #[sv, .slice (some ⟨g, 0, none⟩) 6 c]) ∧ Rd w' (fun b => w.heap.size ≤ b) sv (tx ((List.range 16).map fun (i : Nat) => devF m (i : Int) 1)) ∧ w.heap.size ≤ g ∧ g < w'.heap.size ∧ w'.rangeAt g 0 (bvs ((List.range 6).map fun (c : Nat) => rootF (devF m (c : Int) 2)).flatten) ∧ Below w.heap.size w w' := by
  have b0 := (Blk.new' w 23 (bvs m)).alloc (.cells [Value.slice none 0 0, .slice none 0 0].toArray 42)
  have b1 := Blk.new' (w.alloc (.cells (bvs m).toArray 23)) 42 [.slice none 0 0, .slice none 0 0]
  have hB := ((Below.refl w.heap.size w).alloc (Nat.le_refl _) (.cells (bvs m).toArray 23)).alloc (by simp) (.cells [Value.slice none 0 0, .slice none 0 0].toArray 42)
  rw [show (w.alloc (.cells (bvs m).toArray 23)).heap.size = w.heap.size + 1 from by simp] at b1
  have Hm := hid hm
  have hKs := hid hK
  clear hm hK
  have hrep : Hid ((List.replicate 16 (Value.slice none 0 0)).length = 16) := List.length_replicate
  go_enter Tryd.func15, Tryd.ntmps15
  go_wp2_with (first | (refine wp_new 42 rfl rfl zeroK ?_) | (with_reducible refine wp_at 7 rfl ?_))
  obtain ⟨w0, hw0⟩ : ∃ w0, w0 = (w.alloc (.cells (bvs m).toArray 23)).alloc (.cells [Value.slice none 0 0, .slice none 0 0].toArray 42) := ⟨_, rfl⟩
  have hs0 : w0.heap.size = w.heap.size + 2 := by rw [hw0]; simp
  rw [← hw0] at b0 b1 hB ⊢
  clear hw0
  refine wp_on ?_
  refine wp_mk slBB rfl (.const (.int .i64 16)) (.const (.int .i64 16)) rfl rfl 16 rfl rfl (by omega) (by simp [maxLen]) (List.replicate 16 (.slice none 0 0)) rfl ?_
  have bs := Blk.new' w0 24 (List.replicate 16 (.slice none 0 0))
  have hB1 := hB.alloc hB.size (.cells (List.replicate 16 (Value.slice none 0 0)).toArray 24)
  have c0 := b0.alloc (.cells (List.replicate 16 (Value.slice none 0 0)).toArray 24)
  have c1 := b1.alloc (.cells (List.replicate 16 (Value.slice none 0 0)).toArray 24)
  obtain ⟨w1, hw1⟩ : ∃ w1, w1 = w0.alloc (.cells (List.replicate 16 (Value.slice none 0 0)).toArray 24) := ⟨_, rfl⟩
  obtain ⟨gs, hgs⟩ : ∃ g, g = w0.heap.size := ⟨_, rfl⟩
  rw [← hw1, ← hgs] at bs
  rw [← hw1] at hB1 c0 c1 ⊢
  rw [← hgs] at hs0 ⊢
  have hs1 : gs ≤ w.heap.size + 2 := by omega
  have hs2 : w.heap.size + 2 ≤ gs := by omega
  clear hw1 hgs b0 b1 hB hs0
  go_wp2_with (fail)
  go_loopw [4, 10] (fun iv cv wr => ∃ (i : Nat) (l : List Value), i ≤ 16 ∧ cv = .int .i64 i ∧ l.length = 16 ∧ Blk wr gs 24 l ∧ (∀ j : Nat, j < i → ∃ v, l[j]? = some v ∧ Rd wr (fun b => gs < b) v (bys (devF m (j : Int) 1))) ∧ Blk wr w.heap.size 23 (bvs m) ∧ Blk wr (w.heap.size + 1) 42 [.slice none 0 0, .slice none 0 0] ∧ Below w.heap.size w wr) (fun _ cv _ => 16 - (intOf cv).toNat)
  case atStart => exact ⟨0, _, by omega, rfl, hrep.out, bs, fun j hj => absurd hj (by omega), c0, c1, hB1⟩
  case round =>
    obtain ⟨i, l, hi, rfl, hl, hb, hj, d0, d1, hBr⟩ := hrel
    have hbs := hBr.size
    have hgl := hb.lt
    have Hl := hid hl
    have Hj := hid hj
    clear hj hl
    by_cases hlt : i < 16
    · go_wp2_with (refine wp_ld 23 (.tmp 1) rfl rfl rfl d0.whole und25 rfl (by rw [len_bvs, Hm.out]; exact size25) ?_)
      refine (derive_any m (i : Int) 1 _ (hKs.out.below hBr) Hm.out (by omega) (by omega) (by omega) (by omega)).mono ?_
      rintro e w2 ⟨v2, rfl, hr2, hB2⟩
      have hB2' := hBr.trans (hB2.mono hbs)
      have e0 := d0.below hB2
      have e1 := d1.below hB2
      have hb2 := hb.below hB2
      have hr2 := hr2.weak (F' := fun b => gs < b) (fun b _ hb => by have : wr.heap.size ≤ b := hb; omega)
      obtain ⟨A2, c2, rfl⟩ := hr2.shape
      have hi16 : (i : Int) < 16 := by omega
      go_wp2_with (refine wp_st1 24 (.tmp 18) (.tmp 17) rfl rfl rfl (f := i) (by first | rfl | (rw [Nat.zero_add])) (v := .slice A2 (devF m (i : Int) 1).length c2) rfl hb2 (by rw [Hl.out]; omega) sizeS rfl rfl ?_; intro w3 hb3 hG3)
      have hB3 := hB2'.grown hG3 hB2'.size (by intro k hk; injection hk with hk; omega)
      have f0 := e0.keep (hG3.block _ e0.lt (by intro e; injection e with e; omega))
      have f1 := e1.keep (hG3.block _ e1.lt (by intro e; injection e with e; omega))
      have hrk := hr2.keep (F' := fun b => gs < b) (fun b hb hf => ⟨hf, hG3.block b hb (by intro e; injection e with e; have : gs < b := hf; omega)⟩)
      have Hj3 : Hid (∀ j : Nat, j < i + 1 → ∃ v, (l.set i (.slice A2 (devF m (i : Int) 1).length c2))[j]? = some v ∧ Rd w3 (fun b => gs < b) v (bys (devF m (j : Int) 1))) := by
        show ∀ j : Nat, _
        intro j hj
        by_cases hji : j = i
        · subst hji
          exact ⟨_, List.getElem?_set_self (by rw [Hl.out]; omega), hrk⟩
        · obtain ⟨v, hv, hr⟩ := Hj.out j (by omega)
          refine ⟨v, by rw [List.getElem?_set_ne (by omega)]; exact hv, ?_⟩
          exact (hr.below hB2).keep (F' := fun b => gs < b) (fun b hb hf => ⟨hf, hG3.block b hb (by intro e; injection e with e; have : gs < b := hf; omega)⟩)
      go_wp2
      go_roundw
      case rel => exact ⟨i + 1, _, by omega, by go_num, by rw [List.length_set]; exact Hl.out, hb3, Hj3.out, f0, f1, hB3⟩
      case measure => simp [intOf]; omega
    · have h16 : i = 16 := by omega
      subst h16
      rw [show ((16 : Nat) : Int) = (16 : Int) from rfl]
      clear hlt hi
      go_wp2_with (with_reducible refine wp_at 20 rfl ?_)
      refine wp_on ?_
      refine wp_mkA (z := zs8 32) Tryd.underlying26 (by kernel_rfl) (by simp [zs8]) (.const (.int .i64 6)) (.const (.int .i64 6)) rfl rfl 6 rfl rfl (by simp [zs8]) (by simp [maxLen]) (zs8 (32 * 6)) (zs_flat _) ?_
      have br := Blk.new' wr 23 (zs8 (32 * 6))
      have hB1 := hBr.alloc hbs (.cells (zs8 (32 * 6)).toArray 23)
      have e0 := d0.alloc (.cells (zs8 (32 * 6)).toArray 23)
      have e1 := d1.alloc (.cells (zs8 (32 * 6)).toArray 23)
      have hb1 := hb.alloc (.cells (zs8 (32 * 6)).toArray 23)
      have Hseal : Hid (∀ W, Ch (fun b => wr.heap.size ≤ b) wr W → Rd W (fun b => gs ≤ b) (.slice (some ⟨gs, 0, none⟩) 16 16) (tx ((List.range 16).map fun (i : Nat) => devF m (i : Int) 1))) := by
        show ∀ W, _
        intro W hW
        unfold tx Rd
        rw [show ((List.range 16).map fun (i : Nat) => devF m (i : Int) 1).length = 16 from by simp]
        refine ⟨_, 16, rfl, Nat.le_refl _, by simp [maxLen], fun h => by simp at h, fun _ => ⟨_, _, rfl, Nat.le_refl gs, ?_⟩⟩
        refine RdC.mk (us := l) (hb.ch hW (by show ¬ wr.heap.size ≤ gs; omega)) (by rw [Hl.out]; simp) (fun i u hu => by rw [Nat.zero_add]; exact hu) (fun i u d hu hd => ?_)
        rw [List.getElem?_map, List.getElem?_map] at hd
        obtain ⟨hi16, _⟩ := List.getElem?_eq_some_iff.1 hu
        rw [Hl.out] at hi16
        rw [List.getElem?_range (by omega)] at hd
        simp at hd
        subst hd
        obtain ⟨v, hv, hr⟩ := Hj.out i hi16
        rw [hv] at hu
        injection hu with hu
        subst hu
        exact ((hr.weak (F' := fun b => gs < b ∧ b < wr.heap.size) (fun b h1 h2 => ⟨h2, h1⟩)).ch hW (fun b h => by have := h.2; omega)).weak (fun b _ h => by have := h.1; omega)
      obtain ⟨wa, hwa⟩ : ∃ wa, wa = wr.alloc (.cells (zs8 (32 * 6)).toArray 23) := ⟨_, rfl⟩
      have hal : Ch (fun b => wr.heap.size ≤ b) wr wa := by
        rw [hwa]
        exact ((Ch.refl _ _).belowG ((Below.refl _ _).alloc (Nat.le_refl _) _))
      obtain ⟨gr, hgr⟩ : ∃ g, g = wr.heap.size := ⟨_, rfl⟩
      rw [← hwa] at br hB1 e0 e1 hb1 ⊢
      rw [← hgr] at br hal Hseal ⊢
      have hgr' : gs < gr := by omega
      have hgr2 : wr.heap.size ≤ gr := by omega
      clear hgr hwa d0 d1 hb hBr hb1
      have hf32 : Hid (∀ c : Nat, (rootF (devF m (c : Int) 2)).length = 32) := by
        show ∀ c : Nat, _
        intro c
        rw [root_node]
        exact len_node _ _ _
      obtain ⟨f, hf⟩ : ∃ f : Nat → List UInt8, f = fun (c : Nat) => rootF (devF m (c : Int) 2) := ⟨_, rfl⟩
      have hfl : Hid (∀ c, (f c).length = 32) := by show ∀ c, _; rw [hf]; exact hf32.out
      have hfe : Hid (∀ c : Nat, rootF (devF m (c : Int) 2) = f c) := by show ∀ c : Nat, _; rw [hf]; intro c; rfl
      have hfq : Hid ((List.range 6).map (fun (c : Nat) => rootF (devF m (c : Int) 2)) = (List.range 6).map f) := by show _ = _; rw [hf]
      clear hf
      go_wp2_with (fail)
      go_loopw [6, 23] (fun iv cv wb => ∃ c : Nat, c ≤ 6 ∧ cv = .int .i64 c ∧ Blk wb gr 23 (rowC f 6 c) ∧ Blk wb w.heap.size 23 (bvs m) ∧ Blk wb (w.heap.size + 1) 42 [.slice none 0 0, .slice none 0 0] ∧ Ch (fun b => gr ≤ b) wr wb ∧ Below w.heap.size w wb) (fun _ cv _ => 6 - (intOf cv).toNat)
      case atStart => exact ⟨0, by omega, rfl, by simpa [rowC, bvs] using br, e0, e1, hal, hB1⟩
      case round =>
        obtain ⟨c, hc, rfl, f2, f0, f1, hch, hBr⟩ := hrel
        have hbs' := hBr.size
        by_cases hlt : c < 6
        · have hset := hid (rowC_set f hfl.out 6 c hlt)
          have hlen := hid (rowC_len f hfl.out 6 c hc)
          go_wp2_with (refine wp_ld 23 (.tmp 1) rfl rfl rfl f0.whole und25 rfl (by rw [len_bvs, Hm.out]; exact size25) ?_)
          refine (kseed_any m (c : Int) _ (hKs.out.below hBr) Hm.out (by omega) (by omega)).mono ?_
          rintro e w2 ⟨rfl, hB2⟩
          have hB2' := hBr.trans (hB2.mono hbs')
          go_wp2_with (fail)
          refine (root_any _ _ (hKs.out.below hB2') (len_dev _ _ _)).mono ?_
          rintro e w3 ⟨rfl, hB3⟩
          rw [hfe.out]
          have hql : Hid ((f c).length = 32) := hfl.out c
          have hB3' := hB2'.trans (hB3.mono hB2'.size)
          have g0 := (f0.below hB2).below hB3
          have g1 := (f1.below hB2).below hB3
          have g2 := (f2.below hB2).below hB3
          have hch3 := (hch.belowG hB2).belowG hB3
          obtain ⟨q, hq⟩ : ∃ q, q = f c := ⟨_, rfl⟩
          rw [← hq] at hql hset ⊢
          clear hq
          go_wp2_with (first | (refine wp_ixa 26 (.tmp 26) (.tmp 27) rfl rfl rfl rfl Tryd.underlying26 hlt size25 ?_) | (refine wp_st 23 (.tmp 32) (.tmp 31) rfl rfl rfl (f := c * 32) (by rw [Nat.zero_add]; rfl) (l := bvs q) rfl g2 (by rw [hlen.out, len_bvs, hql.out]; omega) (by rw [len_bvs, hql.out]; exact size25) (oneCell_bvs _) ?_; intro w7 hb7 hG7))
          rw [hset.out] at hb7
          have hB7 := hB3'.grown hG7 hB3'.size (by intro k hk; injection hk with hk; omega)
          have k0 := g0.keep (hG7.block _ g0.lt (by intro e; injection e with e; omega))
          have k1 := g1.keep (hG7.block _ g1.lt (by intro e; injection e with e; omega))
          have hch7 := hch3.grow hG7 (fun k hk => .inl (by injection hk with hk; omega))
          go_wp2
          go_roundw
          case rel => exact ⟨c + 1, by omega, by go_num, hb7, k0, k1, hch7, hB7⟩
          case measure => simp [intOf]; omega
        · have h6 : c = 6 := by omega
          subst h6
          have hse := Hseal.out _ hch
          have hfin : Hid (rowC f 6 6 = bvs ((List.range 6).map f).flatten) := by show _ = _; simp [rowC, zs8]
          rw [hfin.out] at f2
          have hg2l := f2.lt
          clear hfin hfl hfe hlt hc
          go_wp2_with (refine wp_st 42 (.tmp 2) (.tmp 36) rfl rfl rfl (f := 0) rfl (l := [.slice (some ⟨gs, 0, none⟩) 16 16, .slice (some ⟨gr, 0, none⟩) 6 6]) rfl f1 (by simp) (by exact sizeK) (by intro v hv; simp at hv; rcases hv with rfl | rfl <;> rfl) ?_; intro w7 hb7 hG7)
          have hB7 := hBr.grown hG7 hBr.size (by intro k hk; injection hk with hk; omega)
          have hr7 := f2.keep (hG7.block _ f2.lt (by intro e; injection e with e; omega))
          have hse7 := (hse.keep (F' := fun b => gs ≤ b) (fun b hb hf => ⟨hf, hG7.block b hb (by intro e; injection e with e; have : gs ≤ b := hf; omega)⟩)).weak (F' := fun b => w.heap.size ≤ b) (fun b _ h => by have : gs ≤ b := h; omega)
          obtain ⟨dk, hdk, hdr⟩ := undK
          refine ret_cell rfl rfl hb7.whole hdk hdr (by exact sizeK) rfl ?_
          exact ⟨_, gr, 6, rfl, hse7, by omega, hr7.lt, by rw [hfq.out]; exact hr7.whole, hB7⟩
end Go.Proofs.YtcbojdbmfjhkiaaDoor
