/- KA: layer 5: contracts of package keys: hashOf, node, Root, Seed, climbed. -/
import Derived.Test.YtcbojdbmfjhkiaaDoorK3
import Derived.Test.YtcbojdbmfjhkiaaDoorO4
namespace Go.V
open Go.RowKit
theorem i64_and1 (n : Int) : bits .and .i64 n 1 = n % 2 := by
  show IntKind.i64.wrap ((BitVec.ofInt 64 n &&& BitVec.ofInt 64 1).toNat : Int) = n % 2
  have e : (BitVec.ofInt 64 n &&& BitVec.ofInt 64 1).toNat = (n % 2).toNat := by
    rw [BitVec.toNat_and, show (BitVec.ofInt 64 1).toNat = 2 ^ 1 - 1 from rfl, Nat.and_two_pow_sub_one_eq_mod, BitVec.toNat_ofInt]
    omega
  rw [e, IntKind.wrap_i64]
  omega
theorem and_par (k n : Nat) : (bits .and .i64 ((k : Int) / 2 ^ n) 1 == 0) = decide (k / 2 ^ n % 2 = 0) := by
  rw [i64_and1, show (k : Int) / 2 ^ n = ((k / 2 ^ n : Nat) : Int) from by simp]
  obtain ⟨q, hq⟩ : ∃ q, q = k / 2 ^ n := ⟨_, rfl⟩
  rw [← hq]
  by_cases h : q % 2 = 0
  · simp [h]; omega
  · simp [h]; omega
theorem xor_1 (k n : Nat) (hk : k ≤ 7) : bits .xor .i64 ((k : Int) / 2 ^ n) 1 = ((if k / 2 ^ n % 2 = 0 then k / 2 ^ n + 1 else k / 2 ^ n - 1 : Nat) : Int) := by
  have hq : k / 2 ^ n ≤ 7 := Nat.le_trans (Nat.div_le_self _ _) hk
  rw [show (k : Int) / 2 ^ n = ((k / 2 ^ n : Nat) : Int) from by simp]
  obtain ⟨q, hqq⟩ : ∃ q, q = k / 2 ^ n := ⟨_, rfl⟩
  rw [← hqq] at hq ⊢
  obtain rfl | rfl | rfl | rfl | rfl | rfl | rfl | rfl : q = 0 ∨ q = 1 ∨ q = 2 ∨ q = 3 ∨ q = 4 ∨ q = 5 ∨ q = 6 ∨ q = 7 := by omega
  all_goals rfl
end Go.V
namespace Go.Proofs.YtcbojdbmfjhkiaaDoor
open Go.RowKit Go.V
set_option maxRecDepth 100000 in
set_option maxHeartbeats 1000000 in
theorem hashOf_any (v : Value) (p : List UInt8) (F : Nat → Prop) (w : World) (ht : Rd w F v (bys p)) (h32 : 32 ≤ p.length) (_hn : p.length ≤ 17592186044416) :
    Calls Tryd.prog 30 #[v] w fun e w' => e = .returned (.agg (bvs (p.take 32)).toArray) ∧ Below w.heap.size w w' := by
  obtain ⟨A, c, rfl⟩ := ht.shape
  have b0 := (Blk.new' w 23 (zs8 32)).alloc (.cells (zs8 32).toArray 23)
  have b1 := Blk.new' (w.alloc (.cells (zs8 32).toArray 23)) 23 (zs8 32)
  have hB := ((Below.refl w.heap.size w).alloc (Nat.le_refl _) (.cells (zs8 32).toArray 23)).alloc (by simp) (.cells (zs8 32).toArray 23)
  rw [show (w.alloc (.cells (zs8 32).toArray 23)).heap.size = w.heap.size + 1 from by simp] at b1
  have hr := ht.below hB
  have hlk : Hid ((p.take 32).length = 32) := by show _ = _; rw [List.length_take]; omega
  have hsl := fun W => run_sla_all und25 size8 (w.heap.size + 1) 0 (by omega) W
  go_enter Tryd.func30, Tryd.ntmps30
  go_wp2_with (first | (refine wp_new 23 rfl rfl zero25 ?_) | (refine wp_copyT (.tmp 4) (.tmp 5) slB rfl rfl rfl rfl b1 hr.src (oneCell_bvs p) (by omega) (by omega) (by simp [zs8]) ?_; intro w6 hb6 hG6; refine wp_stop ?_))
  rw [bvs_take, splice_all _ _ (by rw [len_zs8, len_bvs, hlk.out])] at hb6
  have hB6 := hB.grown hG6 hB.size (by intro k hk; injection hk with hk; omega)
  have c0 := b0.keep (hG6.block _ b0.lt (by intro e; injection e with e; omega))
  clear hsl hr b0 b1 hB hG6
  refine wp_go ?_
  go_wp2_with (first | (refine wp_ld 23 (.tmp 3) rfl rfl rfl hb6.whole und25 rfl (by rw [len_bvs, hlk.out]; exact size25) ?_) | (refine wp_st 23 (.tmp 2) (.tmp 7) rfl rfl rfl (f := 0) rfl (l := bvs (p.take 32)) rfl c0 (by simp only [len_zs8, len_bvs, hlk.out]; omega) (by rw [len_bvs, hlk.out]; exact size25) (oneCell_bvs _) ?_; intro w7 hb7 hG7))
  rw [set_all _ _ (by rw [len_zs8, len_bvs, hlk.out])] at hb7
  refine ret_cell rfl rfl hb7.whole und25 rfl (by rw [len_bvs, hlk.out]; exact size25) rfl ?_
  exact ⟨rfl, hB6.grown hG7 hB6.size (by intro k hk; injection hk with hk; omega)⟩
/-- the i-th digest of a level -/
def nodeF (seed : List UInt8) : Nat → Nat → List UInt8
  | 0, i => pubF seed (i : Int)
  | l + 1, i => shaF (nodeF seed l (2 * i) ++ nodeF seed l (2 * i + 1))
theorem len_node (seed : List UInt8) : ∀ l i, (nodeF seed l i).length = 32
  | 0, _ => len_pub _ _
  | _ + 1, _ => len_sha _
set_option maxRecDepth 100000 in
set_option maxHeartbeats 1000000 in
theorem node_zero (seed : List UInt8) (i : Nat) (w : World) (hK : KS w) (hl : seed.length = 32) (_hi : i ≤ 100000) :
    Calls Tryd.prog 21 #[.agg (bvs seed).toArray, .int .i64 0, .int .i64 (i : Int)] w fun e w' => e = .returned (.agg (bvs (pubF seed (i : Int))).toArray) ∧ Below w.heap.size w w' := by
  have b0 := (Blk.new' w 23 (bvs seed)).alloc (.cells (zs8 32).toArray 23)
  have b1 := Blk.new' (w.alloc (.cells (bvs seed).toArray 23)) 23 (zs8 32)
  have hB := ((Below.refl w.heap.size w).alloc (Nat.le_refl _) (.cells (bvs seed).toArray 23)).alloc (by simp) (.cells (zs8 32).toArray 23)
  rw [show (w.alloc (.cells (bvs seed).toArray 23)).heap.size = w.heap.size + 1 from by simp] at b1
  have Hl := hid hl
  clear hl
  go_enter Tryd.func21, Tryd.ntmps21
  go_wp2_with (first | (refine wp_new 23 rfl rfl zero25 ?_) | (refine wp_ld 23 (.tmp 3) rfl rfl rfl b0.whole und25 rfl (by rw [len_bvs, Hl.out]; exact size25) ?_))
  refine (public_any seed (i : Int) _ (hK.below hB) Hl.out (by omega) (by omega)).mono ?_
  rintro e w2 ⟨rfl, hB2⟩
  have hpl : Hid ((pubF seed (i : Int)).length = 32) := len_pub _ _
  have c1 := b1.below hB2
  have hB2' := hB.trans (hB2.mono hB.size)
  go_wp2_with (refine wp_st 23 (.tmp 6) (.tmp 11) rfl rfl rfl (f := 0) rfl (l := bvs (pubF seed (i : Int))) rfl c1 (by simp [zs8, len_bvs, hpl.out]) (by rw [len_bvs, hpl.out]; exact size25) (oneCell_bvs _) ?_; intro w7 hb7 hG7)
  rw [set25 _ hpl.out] at hb7
  refine ret_cell rfl rfl hb7.whole und25 rfl (by rw [len_bvs, hpl.out]; exact size25) rfl ?_
  exact ⟨rfl, hB2'.grown hG7 hB2'.size (by intro k hk; injection hk with hk; omega)⟩
set_option maxRecDepth 100000 in
set_option maxHeartbeats 2000000 in
theorem node_step (seed : List UInt8) (hl : seed.length = 32) (lv lp : Int) (B : Nat) (f : Nat → List UInt8) (hf : ∀ i, (f i).length = 32) (e1 : lv - 1 = lp) (h0 : 1 ≤ lv) (h3 : lv ≤ 100) (hBB : B ≤ 40000)
    (ih : ∀ (iv : Int) (i : Nat), iv = i → ∀ w : World, KS w → i ≤ 2 * B + 1 → Calls Tryd.prog 21 #[.agg (bvs seed).toArray, .int .i64 lp, .int .i64 iv] w fun e w' => e = .returned (.agg (bvs (f i)).toArray) ∧ Below w.heap.size w w')
    (iv : Int) (i : Nat) (e2 : iv = i) (w : World) (hK : KS w) (hi : i ≤ B) :
    Calls Tryd.prog 21 #[.agg (bvs seed).toArray, .int .i64 lv, .int .i64 iv] w fun e w' => e = .returned (.agg (bvs (shaF (f (2 * i) ++ f (2 * i + 1)))).toArray) ∧ Below w.heap.size w w' := by
  have b0 := (Blk.new' w 23 (bvs seed)).alloc (.cells (zs8 32).toArray 23)
  have b1 := Blk.new' (w.alloc (.cells (bvs seed).toArray 23)) 23 (zs8 32)
  have hB0 := ((Below.refl w.heap.size w).alloc (Nat.le_refl _) (.cells (bvs seed).toArray 23)).alloc (by simp) (.cells (zs8 32).toArray 23)
  rw [show (w.alloc (.cells (bvs seed).toArray 23)).heap.size = w.heap.size + 1 from by simp] at b1
  have Hl := hid hl
  clear hl
  subst e2
  have hKS := hid hK
  have hne : (lv == 0) = false := by simp; omega
  have hlp : Hid (IntKind.i64.wrap lp = lp) := IntWalk.i64_in _ (by omega)
  have h2i : Hid (IntKind.i64.wrap (2 * (i : Int)) = 2 * (i : Int)) := IntWalk.i64_in _ (by omega)
  have h2j : Hid (IntKind.i64.wrap (2 * (i : Int) + 1) = 2 * (i : Int) + 1) := IntWalk.i64_in _ (by omega)
  go_enter Tryd.func21, Tryd.ntmps21
  go_wp2_with (first | (refine wp_new 23 rfl rfl zero25 ?_))
  obtain ⟨w0, hw0⟩ : ∃ w0, w0 = (w.alloc (.cells (bvs seed).toArray 23)).alloc (.cells (zs8 32).toArray 23) := ⟨_, rfl⟩
  rw [← hw0] at b0 b1 hB0 ⊢
  clear hw0
  obtain ⟨g1, hg1⟩ : ∃ g, g = w.heap.size + 1 := ⟨_, rfl⟩
  obtain ⟨g0, hg0⟩ : ∃ g, g = w.heap.size := ⟨_, rfl⟩
  have n01 : ¬ g0 = g1 := by omega
  have hg1' : w.heap.size ≤ g1 := by omega
  rw [← hg1] at b1 ⊢
  rw [← hg0] at b0 ⊢
  clear hg1 hg0
  refine wp_region_noPanic ?_
  refine wp_region_held_drew (S := Ch (fun b => b = g1) w0) (by kernel_rfl) ((Ch.refl _ _).drew) (fun hHeld => ?_)
  refine wpAnyH_take (i := 0) (oi := ⟨some 12, .load 23 (.tmp 3), _, _, _, none⟩) (v := _) rfl (by kernel_rfl) (by kernel_rfl) (by kernel_rfl) (fun _ _ _ h => h) (yieldsIf_load_mid (by rfl) 23 (.tmp 3) (by rfl) _ (0) (by rfl) _ _ (fun _ hs => b0.chAt n01 hs) und25 rfl (by rw [len_bvs, Hl.out]; exact size25)) (by assumption) ?_
  try simp only [Act.put, List.setIfInBounds_toArray, List.set_cons_zero, List.set_cons_succ]
  refine wpAnyH_take (i := 1) (oi := ⟨some 13, _, _, _, _, none⟩) (v := ?_) rfl (by kernel_rfl) (by kernel_rfl) (by kernel_rfl) (fun _ _ _ h => h) (Or.inl ⟨by rfl, ?_⟩) (by assumption) ?_
  rotate_left
  · intro w hSw; go_simp; try with_reducible rfl
  try simp only [Act.put, List.setIfInBounds_toArray, List.set_cons_zero, List.set_cons_succ]
  refine wpAnyH_take (i := 2) (oi := ⟨some 14, _, _, _, _, none⟩) (v := ?_) rfl (by kernel_rfl) (by kernel_rfl) (by kernel_rfl) (fun _ _ _ h => h) (Or.inl ⟨by rfl, ?_⟩) (by assumption) ?_
  rotate_left
  · intro w hSw; go_simp; try with_reducible rfl
  try simp only [Act.put, List.setIfInBounds_toArray, List.set_cons_zero, List.set_cons_succ]
  refine wpAnyH_take (i := 3) (oi := ⟨some 15, _, _, _, _, none⟩) (v := ?_) rfl (by kernel_rfl) (by kernel_rfl) (by kernel_rfl) (fun _ _ _ h => h) (Or.inl ⟨by rfl, ?_⟩) (by assumption) ?_
  rotate_left
  · intro w hSw; go_simp; try with_reducible rfl
  try simp only [Act.put, List.setIfInBounds_toArray, List.set_cons_zero, List.set_cons_succ]
  refine wpAnyH_take (i := 4) (oi := ⟨some 16, _, _, _, _, none⟩) (v := ?_) rfl (by kernel_rfl) (by kernel_rfl) (by kernel_rfl) (fun _ _ _ h => h) (Or.inl ⟨by rfl, ?_⟩) (by assumption) ?_
  rotate_left
  · intro w hSw; go_simp; try with_reducible rfl
  try simp only [Act.put, List.setIfInBounds_toArray, List.set_cons_zero, List.set_cons_succ]
  refine wpAnyH_take (i := 6) (oi := ⟨some 18, .load 23 (.tmp 3), _, _, _, none⟩) (v := _) rfl (by kernel_rfl) (by kernel_rfl) (by kernel_rfl) (fun _ _ _ h => h) (yieldsIf_load_mid (by rfl) 23 (.tmp 3) (by rfl) _ (0) (by rfl) _ _ (fun _ hs => b0.chAt n01 hs) und25 rfl (by rw [len_bvs, Hl.out]; exact size25)) (by assumption) ?_
  try simp only [Act.put, List.setIfInBounds_toArray, List.set_cons_zero, List.set_cons_succ]
  refine wpAnyH_take (i := 7) (oi := ⟨some 19, _, _, _, _, none⟩) (v := ?_) rfl (by kernel_rfl) (by kernel_rfl) (by kernel_rfl) (fun _ _ _ h => h) (Or.inl ⟨by rfl, ?_⟩) (by assumption) ?_
  rotate_left
  · intro w hSw; go_simp; try with_reducible rfl
  try simp only [Act.put, List.setIfInBounds_toArray, List.set_cons_zero, List.set_cons_succ]
  refine wpAnyH_take (i := 8) (oi := ⟨some 20, _, _, _, _, none⟩) (v := ?_) rfl (by kernel_rfl) (by kernel_rfl) (by kernel_rfl) (fun _ _ _ h => h) (Or.inl ⟨by rfl, ?_⟩) (by assumption) ?_
  rotate_left
  · intro w hSw; go_simp; try with_reducible rfl
  try simp only [Act.put, List.setIfInBounds_toArray, List.set_cons_zero, List.set_cons_succ]
  refine wpAnyH_take (i := 9) (oi := ⟨some 21, _, _, _, _, none⟩) (v := ?_) rfl (by kernel_rfl) (by kernel_rfl) (by kernel_rfl) (fun _ _ _ h => h) (Or.inl ⟨by rfl, ?_⟩) (by assumption) ?_
  rotate_left
  · intro w hSw; go_simp; try with_reducible rfl
  try simp only [Act.put, List.setIfInBounds_toArray, List.set_cons_zero, List.set_cons_succ]
  refine wpAnyH_take (i := 10) (oi := ⟨some 22, _, _, _, _, none⟩) (v := ?_) rfl (by kernel_rfl) (by kernel_rfl) (by kernel_rfl) (fun _ _ _ h => h) (Or.inl ⟨by rfl, ?_⟩) (by assumption) ?_
  rotate_left
  · intro w hSw; go_simp; try with_reducible rfl
  try simp only [Act.put, List.setIfInBounds_toArray, List.set_cons_zero, List.set_cons_succ]
  refine wpAnyH_take (i := 11) (oi := ⟨some 23, _, _, _, _, none⟩) (v := ?_) rfl (by kernel_rfl) (by kernel_rfl) (by kernel_rfl) (fun _ _ _ h => h) (Or.inl ⟨by rfl, ?_⟩) (by assumption) ?_
  rotate_left
  · intro w hSw; go_simp; try with_reducible rfl
  try simp only [Act.put, List.setIfInBounds_toArray, List.set_cons_zero, List.set_cons_succ]
  refine wpAnyH_ready (rs := [5]) (by kernel_rfl) (by simp) ?_
  refine AllReadyH.cons (o := ⟨some 17, _, _, _, _, none⟩) rfl (fun K hK => ?_) AllReadyH.nil
  go_simp
  rw [hlp.out, h2i.out]
  refine (ih _ (2 * i) (by omega) _ (hKS.out.below hB0.drew) (by omega)).mono ?_
  rintro e' w2 ⟨rfl, hB2⟩
  have hBa := hB0.drew.trans (hB2.mono hB0.size)
  have b12 := b1.drew.below hB2
  refine hK.out _ _ (hHeld.belowG hB2) (fun hHeld => ?_)
  clear hK K
  try simp only [Act.put, List.setIfInBounds_toArray, List.set_cons_zero, List.set_cons_succ]
  refine wpAnyH_ready (rs := [12]) (by kernel_rfl) (by simp) ?_
  refine AllReadyH.cons (o := ⟨some 24, _, _, _, _, none⟩) rfl (fun K hK => ?_) AllReadyH.nil
  go_simp
  rw [h2j.out]
  refine (ih _ (2 * i + 1) (by omega) _ (hKS.out.below hBa) (by omega)).mono ?_
  rintro e' w3 ⟨rfl, hB3⟩
  have hBb := hBa.trans (hB3.mono hBa.size)
  have b13 := b12.below hB3
  refine hK.out _ _ (hHeld.belowG hB3) (fun hHeld => ?_)
  clear hK K
  try simp only [Act.put, List.setIfInBounds_toArray, List.set_cons_zero, List.set_cons_succ]
  refine wpAnyH_ready (rs := [13]) (by kernel_rfl) (by simp) ?_
  refine AllReadyH.cons (o := ⟨some 25, _, _, _, _, none⟩) rfl (fun K hK => ?_) AllReadyH.nil
  go_simp
  refine (pair_any (f (2 * i)) (f (2 * i + 1)) _ (hKS.out.below hBb) (hf _) (hf _)).mono ?_
  rintro e' w4 ⟨rfl, hB4⟩
  have hBc := hBb.trans (hB4.mono hBb.size)
  have b14 := b13.below hB4
  obtain ⟨r, hr⟩ : ∃ r, r = shaF (f (2 * i) ++ f (2 * i + 1)) := ⟨_, rfl⟩
  rw [← hr]
  have hrl : Hid (r.length = 32) := by show _ = _; rw [hr]; exact len_sha _
  have Hr := hid hr
  clear hr
  refine hK.out _ _ (hHeld.belowG hB4) (fun hHeld => ?_)
  clear hK K
  try simp only [Act.put, List.setIfInBounds_toArray, List.set_cons_zero, List.set_cons_succ]
  refine wpAnyH_ready (rs := [14]) (by kernel_rfl) (by simp) ?_
  refine AllReadyH.cons (o := ⟨none, .store 23 (.tmp 6) (.tmp 25), _, _, _, none⟩) rfl (fun K hK => ?_) AllReadyH.nil
  refine step_st 23 (.tmp 6) (.tmp 25) (by rfl) (by rfl) (by rfl) (f := 0) (by rfl) (l := bvs r) (by rfl) b14 (by simp [zs8, len_bvs, hrl.out]) (by rw [len_bvs, hrl.out]; exact size25) (oneCell_bvs _) ?_
  intro w5 hb5 hG5
  refine hK.out _ _ (hHeld.grow hG5 (fun k hk => .inl (by injection hk with hk; exact hk.symm))) (fun hHeld => ?_)
  clear hK K
  try simp only [Act.put, List.setIfInBounds_toArray, List.set_cons_zero, List.set_cons_succ]
  refine wpAnyH_done (by kernel_rfl) ?_ _
  refine NoPanic.normal ?_
  rw [set25 _ hrl.out] at hb5
  go_wp2
  refine ret_cell rfl rfl hb5.whole und25 rfl (by rw [len_bvs, hrl.out]; exact size25) rfl ?_
  refine ⟨by rw [Hr.out], hBc.grown hG5 hBc.size (by intro k hk; injection hk with hk; omega)⟩
theorem node_any (seed : List UInt8) (hl : seed.length = 32) (l : Nat) (h3 : l ≤ 3) (lv : Int) (e1 : lv = l) (iv : Int) (i : Nat) (e2 : iv = i) (w : World) (hK : KS w) (hi : i ≤ 100) :
    Calls Tryd.prog 21 #[.agg (bvs seed).toArray, .int .i64 lv, .int .i64 iv] w fun e w' => e = .returned (.agg (bvs (nodeF seed l i)).toArray) ∧ Below w.heap.size w w' := by
  have n0 : ∀ (iv : Int) (i : Nat), iv = i → ∀ w : World, KS w → i ≤ 2 * 5000 + 1 → Calls Tryd.prog 21 #[.agg (bvs seed).toArray, .int .i64 0, .int .i64 iv] w fun e w' => e = .returned (.agg (bvs (nodeF seed 0 i)).toArray) ∧ Below w.heap.size w w' := by
    intro iv i e w hK hi
    subst e
    exact node_zero seed i w hK hl (by omega)
  have n1 := node_step seed hl 1 0 5000 (nodeF seed 0) (len_node seed 0) (by omega) (by omega) (by omega) (by omega) n0
  have n2 := node_step seed hl 2 1 2000 (nodeF seed 1) (len_node seed 1) (by omega) (by omega) (by omega) (by omega) (fun iv i e w hK hi => n1 iv i e w hK (by omega))
  have n3 := node_step seed hl 3 2 500 (nodeF seed 2) (len_node seed 2) (by omega) (by omega) (by omega) (by omega) (fun iv i e w hK hi => n2 iv i e w hK (by omega))
  obtain rfl | rfl | rfl | rfl : l = 0 ∨ l = 1 ∨ l = 2 ∨ l = 3 := by omega
  · subst e1; exact n0 iv i e2 w hK (by omega)
  · subst e1; exact n1 iv i e2 w hK (by omega)
  · subst e1; exact n2 iv i e2 w hK (by omega)
  · subst e1; exact n3 iv i e2 w hK (by omega)
theorem tree_more (seed : List UInt8) (n j : Nat) (hl : ∀ m, (treeF seed m).length = 8 + m) (hj : j < 8 + n) : ∀ d, (treeF seed (n + d)).getD j [] = (treeF seed n).getD j []
  | 0 => rfl
  | d + 1 => by
    rw [← Nat.add_assoc, treeF, List.getD_eq_getElem?_getD, List.getElem?_append_left (by rw [hl]; omega), ← List.getD_eq_getElem?_getD]
    exact tree_more seed n j hl hj d
theorem tree_node (seed : List UInt8) (hl : ∀ m, (treeF seed m).length = 8 + m) (m : Nat) (hm : m < 7) : (treeF seed 7).getD (8 + m) [] = shaF ((treeF seed 7).getD (2 * m) [] ++ (treeF seed 7).getD (2 * m + 1) []) := by
  have e1 := tree_more seed (m + 1) (8 + m) hl (by omega) (7 - (m + 1))
  have e2 := tree_more seed m (2 * m) hl (by omega) (7 - m)
  have e3 := tree_more seed m (2 * m + 1) hl (by omega) (7 - m)
  rw [show m + 1 + (7 - (m + 1)) = 7 from by omega] at e1
  rw [show m + (7 - m) = 7 from by omega] at e2 e3
  rw [e1, e2, e3, treeF, List.getD_eq_getElem?_getD, List.getElem?_append_right (by rw [hl]; exact Nat.le_refl _), hl, Nat.sub_self]
  rfl
theorem tree_leaf (seed : List UInt8) (hl : ∀ m, (treeF seed m).length = 8 + m) (k : Nat) (hk : k < 8) : (treeF seed 7).getD k [] = pubF seed (k : Int) := by
  have e1 := tree_more seed 0 k hl (by omega) 7
  rw [Nat.zero_add] at e1
  rw [e1]
  simp [treeF, leafT, List.getD_eq_getElem?_getD, hk]
/-- a digest of a level is one of the document's row -/
theorem node_tree (seed : List UInt8) : ∀ (l i : Nat), l ≤ 3 → i < sizF l → nodeF seed l i = (treeF seed 7).getD (frmF l + i) []
  | 0, i, _, hi => by
    rw [show frmF 0 + i = i from by simp [frmF], tree_leaf seed (tree_len seed) i (by simpa [sizF] using hi)]
    rfl
  | 1, i, _, hi => by
    have hi : i < 4 := by simpa [sizF] using hi
    rw [nodeF, node_tree seed 0 (2 * i) (by omega) (by simp [sizF]; omega), node_tree seed 0 (2 * i + 1) (by omega) (by simp [sizF]; omega), show frmF 1 + i = 8 + i from by simp [frmF], tree_node seed (tree_len seed) i (by omega)]
    simp [frmF]
  | 2, i, _, hi => by
    have hi : i < 2 := by simpa [sizF] using hi
    rw [nodeF, node_tree seed 1 (2 * i) (by omega) (by simp [sizF]; omega), node_tree seed 1 (2 * i + 1) (by omega) (by simp [sizF]; omega), show frmF 2 + i = 8 + (4 + i) from by simp [frmF]; omega, tree_node seed (tree_len seed) (4 + i) (by omega), show frmF 1 + 2 * i = 2 * (4 + i) from by simp [frmF]; omega, show frmF 1 + (2 * i + 1) = 2 * (4 + i) + 1 from by simp [frmF]; omega]
  | 3, i, _, hi => by
    have hi : i < 1 := by simpa [sizF] using hi
    have hi : i = 0 := by omega
    subst hi
    rw [nodeF, node_tree seed 2 (2 * 0) (by omega) (by simp [sizF]), node_tree seed 2 (2 * 0 + 1) (by omega) (by simp [sizF]), show frmF 3 + 0 = 8 + 6 from by simp [frmF], tree_node seed (tree_len seed) 6 (by omega)]
    simp [frmF]
  | l + 4, _, h, _ => by omega
theorem root_node (seed : List UInt8) : rootF seed = nodeF seed 3 0 := (node_tree seed 3 0 (by omega) (by simp [sizF])).symm
set_option maxRecDepth 100000 in
set_option maxHeartbeats 1000000 in
theorem root_any (seed : List UInt8) (w : World) (hK : KS w) (hl : seed.length = 32) :
    Calls Tryd.prog 9 #[.agg (bvs seed).toArray] w fun e w' => e = .returned (.agg (bvs (rootF seed)).toArray) ∧ Below w.heap.size w w' := by
  have b0 := (Blk.new' w 23 (bvs seed)).alloc (.cells (zs8 32).toArray 23)
  have b1 := Blk.new' (w.alloc (.cells (bvs seed).toArray 23)) 23 (zs8 32)
  have hB := ((Below.refl w.heap.size w).alloc (Nat.le_refl _) (.cells (bvs seed).toArray 23)).alloc (by simp) (.cells (zs8 32).toArray 23)
  rw [show (w.alloc (.cells (bvs seed).toArray 23)).heap.size = w.heap.size + 1 from by simp] at b1
  have Hl := hid hl
  clear hl
  rw [root_node]
  go_enter Tryd.func9, Tryd.ntmps9
  go_wp2_with (first | (refine wp_new 23 rfl rfl zero25 ?_) | (refine wp_ld 23 (.tmp 1) rfl rfl rfl b0.whole und25 rfl (by rw [len_bvs, Hl.out]; exact size25) ?_))
  refine (node_any seed Hl.out 3 (by omega) 3 rfl 0 0 rfl _ (hK.below hB) (by omega)).mono ?_
  rintro e w2 ⟨rfl, hB2⟩
  have hpl : Hid ((nodeF seed 3 0).length = 32) := len_node _ _ _
  have c1 := b1.below hB2
  have hB2' := hB.trans (hB2.mono hB.size)
  go_wp2_with (refine wp_st 23 (.tmp 2) (.tmp 4) rfl rfl rfl (f := 0) rfl (l := bvs (nodeF seed 3 0)) rfl c1 (by simp [zs8, len_bvs, hpl.out]) (by rw [len_bvs, hpl.out]; exact size25) (oneCell_bvs _) ?_; intro w7 hb7 hG7)
  rw [set25 _ hpl.out] at hb7
  refine ret_cell rfl rfl hb7.whole und25 rfl (by rw [len_bvs, hpl.out]; exact size25) rfl ?_
  exact ⟨rfl, hB2'.grown hG7 hB2'.size (by intro k hk; injection hk with hk; omega)⟩
set_option maxRecDepth 100000 in
set_option maxHeartbeats 1000000 in
theorem kseed_any (m : List UInt8) (c : Int) (w : World) (hK : KS w) (hm : m.length = 32) (h1 : -9223372036854775808 ≤ c) (h2 : c ≤ 9223372036854775807) :
    Calls Tryd.prog 16 #[.agg (bvs m).toArray, .int .i64 c] w fun e w' => e = .returned (.agg (bvs (devF m c 2)).toArray) ∧ Below w.heap.size w w' := by
  have b0 := (Blk.new' w 23 (bvs m)).alloc (.cells (zs8 32).toArray 23)
  have b1 := Blk.new' (w.alloc (.cells (bvs m).toArray 23)) 23 (zs8 32)
  have hB := ((Below.refl w.heap.size w).alloc (Nat.le_refl _) (.cells (bvs m).toArray 23)).alloc (by simp) (.cells (zs8 32).toArray 23)
  rw [show (w.alloc (.cells (bvs m).toArray 23)).heap.size = w.heap.size + 1 from by simp] at b1
  have Hl := hid hm
  clear hm
  go_enter Tryd.func16, Tryd.ntmps16
  go_wp2_with (first | (refine wp_new 23 rfl rfl zero25 ?_) | (refine wp_ld 23 (.tmp 2) rfl rfl rfl b0.whole und25 rfl (by rw [len_bvs, Hl.out]; exact size25) ?_))
  refine (derive_any m c 2 _ (hK.below hB) Hl.out h1 h2 (by omega) (by omega)).mono ?_
  rintro e w2 ⟨v2, rfl, hr2, hB2⟩
  have hdl : Hid ((devF m c 2).length = 32) := len_dev _ _ _
  have c1 := b1.below hB2
  have hB2' := hB.trans (hB2.mono hB.size)
  obtain ⟨d, hd⟩ : ∃ d, d = devF m c 2 := ⟨_, rfl⟩
  rw [← hd] at hr2 hdl
  have Hd := hid hd
  clear hd
  go_wp2_with (fail)
  refine (hashOf_any _ d _ _ hr2 (by rw [hdl.out]; omega) (by rw [hdl.out]; omega)).mono ?_
  rintro e w3 ⟨rfl, hB3⟩
  rw [List.take_of_length_le (by rw [hdl.out]; omega)]
  have d1 := c1.below hB3
  have hB3' := hB2'.trans (hB3.mono hB2'.size)
  go_wp2_with (refine wp_st 23 (.tmp 4) (.tmp 8) rfl rfl rfl (f := 0) rfl (l := bvs d) rfl d1 (by simp [zs8, len_bvs, hdl.out]) (by rw [len_bvs, hdl.out]; exact size25) (oneCell_bvs _) ?_; intro w7 hb7 hG7)
  rw [set25 _ hdl.out] at hb7
  refine ret_cell rfl rfl hb7.whole und25 rfl (by rw [len_bvs, hdl.out]; exact size25) rfl ?_
  exact ⟨by rw [Hd.out], hB3'.grown hG7 hB3'.size (by intro k hk; injection hk with hk; omega)⟩
theorem len_upF (h sig : List UInt8) (k : Nat) (hh : h.length = 32) (i : Nat) : (upF h sig k i).length = 32 := len_up h sig k hh i
set_option maxRecDepth 100000 in
set_option maxHeartbeats 2000000 in
theorem climbed_any (h sig : List UInt8) (k : Nat) (v : Value) (F : Nat → Prop) (w : World) (hK : KS w) (hh : h.length = 32) (hs : sig.length = 657) (_hk : k ≤ 7) (hv : Rd w F v (bys (sig.drop 561))) :
    Calls Tryd.prog 24 #[.agg (bvs h).toArray, .int .i64 (k : Int), v] w fun e w' => e = .returned (.agg (bvs (upF h sig k 3)).toArray) ∧ Below w.heap.size w w' := by
  have hv := hv.weak (F' := fun b => b < w.heap.size) (fun b hb _ => hb)
  obtain ⟨A, c, rfl⟩ := hv.shape
  have b0 := (Blk.new' w 23 (bvs h)).alloc (.cells (zs8 32).toArray 23)
  have b1 := Blk.new' (w.alloc (.cells (bvs h).toArray 23)) 23 (zs8 32)
  have hB := ((Below.refl w.heap.size w).alloc (Nat.le_refl _) (.cells (bvs h).toArray 23)).alloc (by simp) (.cells (zs8 32).toArray 23)
  rw [show (w.alloc (.cells (bvs h).toArray 23)).heap.size = w.heap.size + 1 from by simp] at b1
  have Hh := hid hh
  have Hs := hid hs
  have hdl : (sig.drop 561).length = 96 := by rw [List.length_drop, hs]
  rw [hdl] at hv ⊢
  have Hdl := hid hdl
  have hKS := hid hK
  clear hh hs hdl hK
  go_enter Tryd.func24, Tryd.ntmps24
  go_wp2_with (refine wp_new 23 rfl rfl zero25 ?_)
  obtain ⟨w0, hw0⟩ : ∃ w0, w0 = (w.alloc (.cells (bvs h).toArray 23)).alloc (.cells (zs8 32).toArray 23) := ⟨_, rfl⟩
  have hv0 := hv.below hB
  rw [← hw0] at b0 b1 hB hv0 ⊢
  clear hw0
  go_loopw [7, 8, 9] (fun lv pv iv wr => ∃ n : Nat, n ≤ 3 ∧ iv = .int .i64 n ∧ Blk wr w.heap.size 23 (bvs (upF h sig k n)) ∧ Blk wr (w.heap.size + 1) 23 (zs8 32) ∧ Rd wr (fun b => b < w.heap.size) (.slice A 96 c) (bys (sig.drop 561)) ∧ Below w.heap.size w wr) (fun _ _ iv _ => 3 - (intOf iv).toNat)
  case atStart => exact ⟨0, by omega, rfl, b0, b1, hv0, hB⟩
  case round =>
    obtain ⟨n, hn, rfl, c0, c1, hr, hBr⟩ := hrel
    have hbs := hBr.size
    have hql : Hid ((upF h sig k n).length = 32) := len_up _ _ _ Hh.out n
    by_cases hlt : n < 3
    · obtain ⟨A', m', c', hcut, hr4⟩ := Rd.cut_l slB hr ((n : Int) * 32) (by omega) (by rw [Hdl.out]; omega)
      rw [show ((n : Int) * 32).toNat = 32 * n from by omega, List.drop_drop] at hr4
      have hwr : IntKind.i64.wrap ((n : Int) * 32) = (n : Int) * 32 := IntWalk.i64_in _ (by omega)
      go_wp2_with (fail)
      refine (hashOf_any _ (sig.drop (561 + 32 * n)) _ _ hr4 (by rw [List.length_drop, Hs.out]; omega) (by rw [List.length_drop, Hs.out]; omega)).mono ?_
      rintro e w2 ⟨rfl, hB2⟩
      obtain ⟨q, hq⟩ : ∃ q, q = (sig.drop (561 + 32 * n)).take 32 := ⟨_, rfl⟩
      have Hq : Hid (q.length = 32) := by show _ = _; rw [hq, List.length_take, List.length_drop, Hs.out]; omega
      have Hup : Hid (upF h sig k (n + 1) = if k / 2 ^ n % 2 = 0 then shaF (upF h sig k n ++ q) else shaF (q ++ upF h sig k n)) := by show _ = _; rw [upF, hq]
      rw [← hq]
      clear hq hr4 hcut hwr
      obtain ⟨p, hp⟩ : ∃ p, p = upF h sig k n := ⟨_, rfl⟩
      rw [← hp] at hql Hup c0
      clear hp
      have hB2' := hBr.trans (hB2.mono hbs)
      have hB3 := hB2'.alloc hB2'.size (.cells (zs8 32).toArray 23)
      have hz2 := Blk.new' w2 23 (zs8 32)
      have d0 := (c0.below hB2).alloc (.cells (zs8 32).toArray 23)
      have d1 := (c1.below hB2).alloc (.cells (zs8 32).toArray 23)
      have hr2 := (hr.below hB2).below ((Below.refl _ _).alloc (Nat.le_refl _) (.cells (zs8 32).toArray 23))
      have hc0l := (c0.below hB2).lt
      have hc1l := (c1.below hB2).lt
      go_wp2_with (first | (refine wp_new 23 rfl rfl zero25 ?_) | (refine wp_st 23 (.tmp 8) (.tmp 16) rfl rfl rfl (f := 0) rfl (l := bvs q) rfl hz2 (by simp [zs8, len_bvs, Hq.out]) (by rw [len_bvs, Hq.out]; exact size25) (oneCell_bvs _) ?_; intro w3 hb3 hG3; refine wp_stop ?_))
      rw [set25 _ Hq.out] at hb3
      have hB3' := hB3.grown hG3 hB3.size (by intro k hk; injection hk with hk; omega)
      have e0 := d0.keep (hG3.block _ d0.lt (by intro e; injection e with e; omega))
      have e1 := d1.keep (hG3.block _ d1.lt (by intro e; injection e with e; omega))
      have hr3 := hr2.keep (F' := fun b => b < w.heap.size) (fun b hb hf => ⟨hf, hG3.block b hb (by intro e; injection e with e; omega)⟩)
      clear hz2 d0 d1 hr2 hB3 hB2' hG3
      obtain ⟨g8, hg8⟩ : ∃ g, g = w2.heap.size := ⟨_, rfl⟩
      have hg8' : w.heap.size + 1 < g8 := by omega
      rw [← hg8] at hb3 ⊢
      clear hg8 hB2 c0 c1 hr hBr hbs
      by_cases hpar : k / 2 ^ n % 2 = 0
      · have Hup : Hid (upF h sig k (n + 1) = shaF (p ++ q)) := by show _ = _; rw [Hup.out, if_pos hpar]
        have hand : (bits .and .i64 ((k : Int) / 2 ^ n) 1 == 0) = true := by rw [and_par]; simp [hpar]
        refine wp_go ?_
        go_wp2_with (first | (refine wp_ld 23 (.tmp 3) rfl rfl rfl e0.whole und25 rfl (by rw [len_bvs, hql.out]; exact size25) ?_) | (refine wp_ld 23 (.tmp 8) rfl rfl rfl hb3.whole und25 rfl (by rw [len_bvs, Hq.out]; exact size25) ?_))
        refine (pair_any p q _ (hKS.out.below hB3') hql.out Hq.out).mono ?_
        rintro e w4 ⟨rfl, hB4⟩
        rw [← Hup.out]
        have hul : Hid ((upF h sig k (n + 1)).length = 32) := len_up _ _ _ Hh.out _
        obtain ⟨u, hu⟩ : ∃ u, u = upF h sig k (n + 1) := ⟨_, rfl⟩
        rw [← hu] at hul ⊢
        have Hu := hid hu
        clear hu
        have f0 := e0.below hB4
        have f1 := e1.below hB4
        have hr4 := hr3.below hB4
        have hB4' := hB3'.trans (hB4.mono hB3'.size)
        have hws := hB3'.size
        go_wp2_with (refine wp_st 23 (.tmp 3) (.tmp 24) rfl rfl rfl (f := 0) rfl (l := bvs u) rfl f0 (by simp [len_bvs, hul.out, hql.out]) (by rw [len_bvs, hul.out]; exact size25) (oneCell_bvs _) ?_; intro w7 hb7 hG7)
        rw [set_all _ _ (by rw [len_bvs, len_bvs, hul.out, hql.out]), Hu.out] at hb7
        have f1' := f1.keep (hG7.block _ f1.lt (by intro e; injection e with e; omega))
        have hr7 := hr4.keep (F' := fun b => b < w.heap.size) (fun b hb hf => ⟨hf, hG7.block b hb (by intro e; injection e with e; omega)⟩)
        have hB7 := hB4'.grown hG7 hB4'.size (by intro k hk; injection hk with hk; omega)
        go_wp2
        go_roundw
        case rel => exact ⟨n + 1, by omega, by go_num, hb7, f1', hr7, hB7⟩
        case measure => simp [intOf]; omega
      · have Hup : Hid (upF h sig k (n + 1) = shaF (q ++ p)) := by show _ = _; rw [Hup.out, if_neg hpar]
        have hand : (bits .and .i64 ((k : Int) / 2 ^ n) 1 == 0) = false := by rw [and_par]; simp; omega
        refine wp_go ?_
        go_wp2_with (first | (refine wp_ld 23 (.tmp 8) rfl rfl rfl hb3.whole und25 rfl (by rw [len_bvs, Hq.out]; exact size25) ?_) | (refine wp_ld 23 (.tmp 3) rfl rfl rfl e0.whole und25 rfl (by rw [len_bvs, hql.out]; exact size25) ?_))
        refine (pair_any q p _ (hKS.out.below hB3') Hq.out hql.out).mono ?_
        rintro e w4 ⟨rfl, hB4⟩
        rw [← Hup.out]
        have hul : Hid ((upF h sig k (n + 1)).length = 32) := len_up _ _ _ Hh.out _
        obtain ⟨u, hu⟩ : ∃ u, u = upF h sig k (n + 1) := ⟨_, rfl⟩
        rw [← hu] at hul ⊢
        have Hu := hid hu
        clear hu
        have f0 := e0.below hB4
        have f1 := e1.below hB4
        have hr4 := hr3.below hB4
        have hB4' := hB3'.trans (hB4.mono hB3'.size)
        have hws := hB3'.size
        go_wp2_with (refine wp_st 23 (.tmp 3) (.tmp 27) rfl rfl rfl (f := 0) rfl (l := bvs u) rfl f0 (by simp [len_bvs, hul.out, hql.out]) (by rw [len_bvs, hul.out]; exact size25) (oneCell_bvs _) ?_; intro w7 hb7 hG7)
        rw [set_all _ _ (by rw [len_bvs, len_bvs, hul.out, hql.out]), Hu.out] at hb7
        have f1' := f1.keep (hG7.block _ f1.lt (by intro e; injection e with e; omega))
        have hr7 := hr4.keep (F' := fun b => b < w.heap.size) (fun b hb hf => ⟨hf, hG7.block b hb (by intro e; injection e with e; omega)⟩)
        have hB7 := hB4'.grown hG7 hB4'.size (by intro k hk; injection hk with hk; omega)
        go_wp2
        go_roundw
        case rel => exact ⟨n + 1, by omega, by go_num, hb7, f1', hr7, hB7⟩
        case measure => simp [intOf]; omega
    · have h33 : n = 3 := by omega
      subst h33
      go_wp2_with (first | (refine wp_ld 23 (.tmp 3) rfl rfl rfl c0.whole und25 rfl (by rw [len_bvs, hql.out]; exact size25) ?_) | (refine wp_st 23 (.tmp 6) (.tmp 29) rfl rfl rfl (f := 0) rfl (l := bvs (upF h sig k 3)) rfl c1 (by simp [zs8, len_bvs, hql.out]) (by rw [len_bvs, hql.out]; exact size25) (oneCell_bvs _) ?_; intro w7 hb7 hG7))
      rw [set25 _ hql.out] at hb7
      refine ret_cell rfl rfl hb7.whole und25 rfl (by rw [len_bvs, hql.out]; exact size25) rfl ?_
      exact ⟨rfl, hBr.grown hG7 hBr.size (by intro k hk; injection hk with hk; omega)⟩
end Go.Proofs.YtcbojdbmfjhkiaaDoor
