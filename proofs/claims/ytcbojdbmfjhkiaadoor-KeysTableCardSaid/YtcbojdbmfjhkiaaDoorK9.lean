/- K9: layer 5: the law KeysTable. -/
import Derived.Test.YtcbojdbmfjhkiaaDoorK6
namespace Go.Proofs.YtcbojdbmfjhkiaaDoor
open Go.RowKit Go.V
theorem size42 : (Tryd.prog.info? 42).map (·.size) = some 2 := by kernel_rfl
theorem zero42 : (Tryd.prog.info? 42).map (·.zero) = some (some (.agg [.slice none 0 0, .slice none 0 0].toArray)) := by kernel_rfl
set_option maxRecDepth 100000 in
set_option maxHeartbeats 4000000 in
theorem keysTable_law (m : List UInt8) (cy iy : UInt8) (w : World) (hK : KS w) (hl : m.length = 32) :
    Calls Tryd.prog 5 #[.agg (bvs m).toArray, .int .u8 (cy.toNat : Int), .int .u8 (iy.toNat : Int)] w fun e w' => e = .returned (.bool true) ∧ Below w.heap.size w w' := by
  have Hl := hid hl
  clear hl
  have hmd := Blk.new' w 23 (bvs m)
  have hB := (Below.refl w.heap.size w).alloc (Nat.le_refl _) (.cells (bvs m).toArray 23)
  have hc256 := cy.toNat_lt
  have hi256 := iy.toNat_lt
  have hn16 : ((16 : Int) != 16) = false := by decide
  have hn6 : ((6 : Int) != 6) = false := by decide
  go_enter Tryd.func5, Tryd.ntmps5
  go_wp2_with (fail)
  refine (wakes5_any _ (hK.below hB)).mono ?_
  rintro e w1 ⟨rfl, hB1⟩
  have hB1' := hB.trans (hB1.mono hB.size)
  have hmd1 := hmd.below hB1
  go_wp2_with (with_reducible refine wp_at 13 rfl ?_)
  refine wp_on ?_
  refine wp_ld 23 (.tmp 3) rfl rfl rfl hmd1.whole und25 rfl (by rw [len_bvs, Hl.out]; exact size25) ?_
  go_wp2_with (fail)
  refine (table_any m _ (hK.below hB1') Hl.out).mono ?_
  rintro e w2 ⟨sv, g, cr, rfl, hrs, hg, hgl, hrg, hB2⟩
  have hB2' := hB1'.trans (hB2.mono hB1'.size)
  have hmd2 := hmd1.below hB2
  unfold tx at hrs
  rw [show ((List.range 16).map fun (i : Nat) => devF m (i : Int) 1).length = 16 from by simp] at hrs
  obtain ⟨As, cs, rfl, hcs1, hcs2⟩ := hrs.slShape
  have hn7 := Blk.new' w2 42 [.slice none 0 0, .slice none 0 0]
  have hal2 := (Below.refl w2.heap.size w2).alloc (Nat.le_refl _) (.cells [Value.slice none 0 0, .slice none 0 0].toArray 42)
  have hB3 := hB2'.alloc hB2'.size (.cells [Value.slice none 0 0, .slice none 0 0].toArray 42)
  have hml := hmd2.lt
  go_wp2_with (first | (refine wp_new 42 rfl rfl zero42 ?_) | (refine wp_st 42 (.tmp 7) (.tmp 14) rfl rfl rfl (f := 0) rfl (l := [.slice As 16 cs, .slice (some ⟨g, 0, none⟩) 6 cr]) rfl hn7 (by simp) (by exact size42) (by intro v hv; simp at hv; rcases hv with rfl | rfl <;> rfl) ?_; intro w4 hb4 hG4; refine wp_stop ?_))
  have e4 : ([Value.slice none 0 0, .slice none 0 0] : List Value).take 0 ++ [.slice As 16 cs, .slice (some ⟨g, 0, none⟩) 6 cr] ++ ([Value.slice none 0 0, .slice none 0 0] : List Value).drop (0 + ([Value.slice As 16 cs, .slice (some ⟨g, 0, none⟩) 6 cr] : List Value).length) = [.slice As 16 cs, .slice (some ⟨g, 0, none⟩) 6 cr] := rfl
  rw [e4] at hb4
  clear e4
  have hB24 : Below w2.heap.size w2 w4 := hal2.grown hG4 (by simp) (by intro k hk; injection hk with hk; omega)
  have hB4 := hB2'.trans (hB24.mono hB2'.size)
  have hmd4 := hmd2.below hB24
  have hrs4 := hrs.below hB24
  have hrg4 : w4.rangeAt g 0 _ := fun j v hv => (World.cell?_of_block (hB24.block g hgl)).trans (hrg j v hv)
  have hgl4 : g < w4.heap.size := by have := hB24.size; omega
  obtain ⟨g7, hg7⟩ : ∃ b, b = w2.heap.size := ⟨_, rfl⟩
  obtain ⟨g3, hg3⟩ : ∃ b, b = w.heap.size := ⟨_, rfl⟩
  rw [← hg7] at hb4 ⊢
  rw [← hg3] at hmd4 ⊢
  have c0 := hb4.cellAt 0 _ rfl
  have c1 := hb4.cellAt 1 _ rfl
  clear hg7 hg3 hmd hmd1 hmd2 hn7 hal2 hB3 hrs hrg hG4
  refine wp_go ?_
  go_wp2_with (with_reducible refine wp_at 31 rfl ?_)
  clear c0 c1 hn16 hn6
  refine wp_on ?_
  refine wp_ld 23 (.tmp 3) rfl rfl rfl hmd4.whole und25 rfl (by rw [len_bvs, Hl.out]; exact size25) ?_
  obtain ⟨k, hk⟩ : ∃ k, k = cy.toNat % 6 := ⟨_, rfl⟩
  obtain ⟨n, hn⟩ : ∃ n, n = iy.toNat % 16 := ⟨_, rfl⟩
  rw [show (cy.toNat : Int) % 6 = (k : Int) from by rw [hk]; rfl, show (iy.toNat : Int) % 16 = (n : Int) from by rw [hn]; rfl]
  have hk6 : k < 6 := by omega
  have hn16 : n < 16 := by omega
  have hnI : (n : Int) < 16 := by omega
  clear hk hn
  obtain ⟨s, hs⟩ : ∃ s, s = devF m (k : Int) 2 := ⟨_, rfl⟩
  have Hsl : Hid (s.length = 32) := by show _ = _; rw [hs]; exact len_dev _ _ _
  obtain ⟨r, hr⟩ : ∃ r, r = rootF s := ⟨_, rfl⟩
  have Hrl : Hid (r.length = 32) := by show _ = _; rw [hr]; exact len_root _
  obtain ⟨d, hd⟩ : ∃ d, d = devF m (n : Int) 1 := ⟨_, rfl⟩
  have hroot := row32 hrg4 (by intro x hx; obtain ⟨j, _, rfl⟩ := List.mem_map.1 hx; exact len_root _) k r (by rw [hr, hs]; simp [hk6])
  obtain ⟨gs, os, u, rfl, hgs, hcu, hru⟩ := hrs4.elem n (bys d) (by rw [hd]; simp [hn16])
  have Hs := hid hs
  have Hr := hid hr
  have Hd := hid hd
  clear hs hr hd hrs4
  go_wp2_with (fail)
  refine (kseed_any m (k : Int) _ (hK.below hB4) Hl.out (by omega) (by omega)).mono ?_
  rintro e w5 ⟨rfl, hB5⟩
  rw [← Hs.out]
  have hB5' := hB4.trans (hB5.mono hB4.size)
  have hn10 := Blk.new' w5 23 (zs8 32)
  have hal5 := (Below.refl w5.heap.size w5).alloc (Nat.le_refl _) (.cells (zs8 32).toArray 23)
  have hB6 := hB5'.alloc hB5'.size (.cells (zs8 32).toArray 23)
  have hml5 := hmd4.lt
  have hz45 := hB5.size
  have hg7l := hb4.lt
  go_wp2_with (first | (refine wp_new 23 rfl rfl zero25 ?_) | (refine wp_st 23 (.tmp 10) (.tmp 33) rfl rfl rfl (f := 0) rfl (l := bvs s) rfl hn10 (by simp [zs8, len_bvs, Hsl.out]) (by rw [len_bvs, Hsl.out]; exact size25) (oneCell_bvs _) ?_; intro wq hb7 hG7; refine wp_stop ?_))
  rw [set25 _ Hsl.out] at hb7
  have hB57 : Below w5.heap.size w5 wq := hal5.grown hG7 (by simp) (by intro k hk; injection hk with hk; omega)
  have hB47 := hB5.trans (hB57.mono hB5.size)
  have hBq := hB4.trans (hB47.mono hB4.size)
  have hmdq := hmd4.below hB47
  have hbq := hb4.below hB47
  have hcuq : wq.cell? ⟨gs, os + n, none⟩ = some u := (World.cell?_of_block (hB47.block gs (lt_of_cell hcu))).trans hcu
  have hruq := hru.below hB47
  have hrtq : wq.rangeAt g (0 + k * 32) (bvs r) := fun j v hv => (World.cell?_of_block (hB47.block g hgl4)).trans (hroot j v hv)
  have hglq : g < wq.heap.size := by have := hB47.size; omega
  obtain ⟨g10, hg10⟩ : ∃ b, b = w5.heap.size := ⟨_, rfl⟩
  rw [← hg10] at hb7 ⊢
  obtain ⟨Au, cu, rfl⟩ := hruq.shape
  have hKq := hK.below hBq
  have HSD : Hid (∀ W, Ch nob wq W → W.rangeAt g10 0 (bvs s)) := fun W h => hb7.chAt (fun h => h) h
  have HMD : Hid (∀ W, Ch nob wq W → W.rangeAt g3 0 (bvs m)) := fun W h => hmdq.chAt (fun h => h) h
  have HRT : Hid (∀ W, Ch nob wq W → W.rangeAt g (0 + k * 32) (bvs r)) := fun W h j v hv => (World.cell?_of_block (h.block g hglq (fun h => h))).trans (hrtq j v hv)
  have HC0 : Hid (∀ W, Ch nob wq W → W.cell? ⟨g7, 0, none⟩ = some (.slice (some ⟨gs, os, none⟩) 16 cs)) := fun W h => (World.cell?_of_block (h.block g7 hbq.lt (fun h => h))).trans (hbq.cellAt 0 _ rfl)
  have HC1 : Hid (∀ W, Ch nob wq W → W.cell? ⟨g7, 1, none⟩ = some (.slice (some ⟨g, 0, none⟩) 6 cr)) := fun W h => (World.cell?_of_block (h.block g7 hbq.lt (fun h => h))).trans (hbq.cellAt 1 _ rfl)
  have HCE : Hid (∀ W, Ch nob wq W → W.cell? ⟨gs, os + n, none⟩ = some (.slice Au d.length cu)) := fun W h => (World.cell?_of_block (h.block gs (lt_of_cell hcuq) (fun h => h))).trans hcuq
  have HDU : Hid (∀ W, Ch nob wq W → Rd W _ (.slice Au d.length cu) (bys d)) := fun W h => hruq.ext h
  have HKS : Hid (∀ W, Ch nob wq W → KS W) := fun W h => hKq.below h.below
  have heq := eqH s s Hsl.out Hsl.out
  rw [beq_self_eq_true] at heq
  have heq2 := eqH r r Hrl.out Hrl.out
  rw [beq_self_eq_true] at heq2
  clear hg10 hmdq hmd4 hb4 hbq hb7 hcu hcuq hru hruq hrtq hroot hrg4 hKq hn10 hal5 hB6 hG7
  refine wp_go ?_
  go_wp2
  refine wp_region_noPanic ?_
  refine wp_region_held_drew (S := Ch nob wq) (by kernel_rfl) ((Ch.refl _ _).drew) (fun hHeld => ?_)
  refine wpAnyH_take (i := 0) (oi := ⟨some 34, .load 23 (.tmp 10), _, _, _, none⟩) (v := _) rfl (by kernel_rfl) (by kernel_rfl) (by kernel_rfl) (fun _ _ _ h => h) (yieldsIf_load_mid (by rfl) 23 (.tmp 10) (by rfl) _ (0) (by rfl) _ _ (fun _ hs => HSD.out _ hs) und25 rfl (by rw [len_bvs, Hsl.out]; exact size25)) (by assumption) ?_
  try simp only [Act.put, List.setIfInBounds_toArray, List.set_cons_zero, List.set_cons_succ]
  refine wpAnyH_take (i := 1) (oi := ⟨some 35, .load 23 (.tmp 3), _, _, _, none⟩) (v := _) rfl (by kernel_rfl) (by kernel_rfl) (by kernel_rfl) (fun _ _ _ h => h) (yieldsIf_load_mid (by rfl) 23 (.tmp 3) (by rfl) _ (0) (by rfl) _ _ (fun _ hs => HMD.out _ hs) und25 rfl (by rw [len_bvs, Hl.out]; exact size25)) (by assumption) ?_
  try simp only [Act.put, List.setIfInBounds_toArray, List.set_cons_zero, List.set_cons_succ]
  refine wpAnyH_take (i := 2) (oi := ⟨some 36, _, _, _, _, none⟩) (v := ?_) rfl (by kernel_rfl) (by kernel_rfl) (by kernel_rfl) (fun _ _ _ h => h) (Or.inl ⟨by rfl, ?_⟩) (by assumption) ?_
  rotate_left
  · intro w hSw; go_simp; try with_reducible rfl
  try simp only [Act.put, List.setIfInBounds_toArray, List.set_cons_zero, List.set_cons_succ]
  refine wpAnyH_ready (rs := [3]) (by kernel_rfl) (by simp) ?_
  refine AllReadyH.cons (o := ⟨some 37, _, _, _, _, none⟩) rfl (fun K hK => ?_) AllReadyH.nil
  go_simp
  refine (rseed_any m (k : Int) _ Hl.out (by omega) (by omega)).mono ?_
  rintro e' w11 ⟨rfl, hB11⟩
  rw [← Hs.out]
  have hC11 := hHeld.belowG hB11
  refine hK.out _ _ (hC11) (fun hHeld => ?_)
  clear hK K
  try simp only [Act.put, List.setIfInBounds_toArray, List.set_cons_zero, List.set_cons_succ]
  refine wpAnyH_take (i := 4) (oi := ⟨some 38, _, _, _, _, none⟩) (v := ?_) rfl (by kernel_rfl) (by kernel_rfl) (by kernel_rfl) (fun _ _ _ h => h) (Or.inl ⟨by rfl, ?_⟩) (by assumption) ?_
  rotate_left
  · intro w hSw; go_simp; try with_reducible rfl
  try simp only [Act.put, List.setIfInBounds_toArray, List.set_cons_zero, List.set_cons_succ]
  refine wpAnyH_take (i := 5) (oi := ⟨some 39, _, _, _, _, none⟩) (v := ?_) rfl (by kernel_rfl) (by kernel_rfl) (by kernel_rfl) (fun _ _ _ h => h) (Or.inl ⟨by rfl, ?_⟩) (by assumption) ?_
  rotate_left
  · intro w hSw; go_simp; try with_reducible rfl
  try simp only [Act.put, List.setIfInBounds_toArray, List.set_cons_zero, List.set_cons_succ]
  refine wpAnyH_take (i := 6) (oi := ⟨some 40, _, _, _, _, some (5, true)⟩) (v := ?_) rfl (by kernel_rfl) (by kernel_rfl) (by kernel_rfl) (fun _ _ _ h => h) (Or.inl ⟨by rfl, ?_⟩) (by assumption) ?_
  rotate_left
  · intro w hSw; go_simp; try with_reducible rfl
  try simp only [Act.put, List.setIfInBounds_toArray, List.set_cons_zero, List.set_cons_succ]
  refine wpAnyH_take (i := 7) (oi := ⟨some 41, _, _, _, _, some (5, true)⟩) (v := ?_) rfl (by kernel_rfl) (by kernel_rfl) (by kernel_rfl) (fun _ _ _ h => h) (Or.inl ⟨by rfl, ?_⟩) (by assumption) ?_
  rotate_left
  · intro w hSw; have hcw := HC1.out w hSw; go_simp; try with_reducible rfl
  try simp only [Act.put, List.setIfInBounds_toArray, List.set_cons_zero, List.set_cons_succ]
  refine wpAnyH_take (i := 8) (oi := ⟨some 42, _, _, _, _, some (5, true)⟩) (v := ?_) rfl (by kernel_rfl) (by kernel_rfl) (by kernel_rfl) (fun _ _ _ h => h) (Or.inl ⟨by rfl, ?_⟩) (by assumption) ?_
  rotate_left
  · intro w hSw; go_simp; try with_reducible rfl
  try simp only [Act.put, List.setIfInBounds_toArray, List.set_cons_zero, List.set_cons_succ]
  refine wpAnyH_take (i := 9) (oi := ⟨some 43, _, _, _, _, some (5, true)⟩) (v := _) rfl (by kernel_rfl) (by kernel_rfl) (by kernel_rfl) (fun _ _ _ h => h) (yi_ixa (by rfl) 26 (.tmp 41) (.tmp 42) (by rfl) (by rfl) (by rfl) Tryd.underlying26 hk6 size25) (by assumption) ?_
  try simp only [Act.put, List.setIfInBounds_toArray, List.set_cons_zero, List.set_cons_succ]
  refine wpAnyH_take (i := 10) (oi := ⟨some 44, .load 23 (.tmp 43), _, _, _, some (5, true)⟩) (v := _) rfl (by kernel_rfl) (by kernel_rfl) (by kernel_rfl) (fun _ _ _ h => h) (yieldsIf_load_mid (by rfl) 23 (.tmp 43) (by rfl) _ (0 + k * 32) (by rfl) _ _ (fun _ hs => HRT.out _ hs) und25 rfl (by rw [len_bvs, Hrl.out]; exact size25)) (by assumption) ?_
  try simp only [Act.put, List.setIfInBounds_toArray, List.set_cons_zero, List.set_cons_succ]
  refine wpAnyH_take (i := 11) (oi := ⟨some 45, .load 23 (.tmp 10), _, _, _, some (5, true)⟩) (v := _) rfl (by kernel_rfl) (by kernel_rfl) (by kernel_rfl) (fun _ _ _ h => h) (yieldsIf_load_mid (by rfl) 23 (.tmp 10) (by rfl) _ (0) (by rfl) _ _ (fun _ hs => HSD.out _ hs) und25 rfl (by rw [len_bvs, Hsl.out]; exact size25)) (by assumption) ?_
  try simp only [Act.put, List.setIfInBounds_toArray, List.set_cons_zero, List.set_cons_succ]
  refine wpAnyH_ready (rs := [12]) (by kernel_rfl) (by simp) ?_
  refine AllReadyH.cons (o := ⟨some 46, _, _, _, _, some (5, true)⟩) rfl (fun K hK => ?_) AllReadyH.nil
  go_simp
  refine (root_any s _ (HKS.out _ hC11) Hsl.out).mono ?_
  rintro e' w12 ⟨rfl, hB12⟩
  rw [← Hr.out]
  have hC12 := hC11.belowG hB12
  refine hK.out _ _ (hC12) (fun hHeld => ?_)
  clear hK K
  try simp only [Act.put, List.setIfInBounds_toArray, List.set_cons_zero, List.set_cons_succ]
  refine wpAnyH_take (i := 13) (oi := ⟨some 47, _, _, _, _, some (5, true)⟩) (v := ?_) rfl (by kernel_rfl) (by kernel_rfl) (by kernel_rfl) (fun _ _ _ h => h) (Or.inl ⟨by rfl, ?_⟩) (by assumption) ?_
  rotate_left
  · intro w hSw; go_simp; try with_reducible rfl
  try simp only [Act.put, List.setIfInBounds_toArray, List.set_cons_zero, List.set_cons_succ]
  refine wpAnyH_take (i := 14) (oi := ⟨some 48, _, _, _, _, none⟩) (v := ?_) rfl (by kernel_rfl) (by kernel_rfl) (by kernel_rfl) (fun _ _ _ h => h) (Or.inl ⟨by rfl, ?_⟩) (by assumption) ?_
  rotate_left
  · intro w hSw; go_simp; try with_reducible rfl
  try simp only [Act.put, List.setIfInBounds_toArray, List.set_cons_zero, List.set_cons_succ]
  refine wpAnyH_take (i := 15) (oi := ⟨some 49, _, _, _, _, none⟩) (v := ?_) rfl (by kernel_rfl) (by kernel_rfl) (by kernel_rfl) (fun _ _ _ h => h) (Or.inl ⟨by rfl, ?_⟩) (by assumption) ?_
  rotate_left
  · intro w hSw; go_simp; try with_reducible rfl
  try simp only [Act.put, List.setIfInBounds_toArray, List.set_cons_zero, List.set_cons_succ]
  refine wpAnyH_take (i := 16) (oi := ⟨some 50, _, _, _, _, some (15, true)⟩) (v := ?_) rfl (by kernel_rfl) (by kernel_rfl) (by kernel_rfl) (fun _ _ _ h => h) (Or.inl ⟨by rfl, ?_⟩) (by assumption) ?_
  rotate_left
  · intro w hSw; go_simp; try with_reducible rfl
  try simp only [Act.put, List.setIfInBounds_toArray, List.set_cons_zero, List.set_cons_succ]
  refine wpAnyH_take (i := 17) (oi := ⟨some 51, _, _, _, _, some (15, true)⟩) (v := ?_) rfl (by kernel_rfl) (by kernel_rfl) (by kernel_rfl) (fun _ _ _ h => h) (Or.inl ⟨by rfl, ?_⟩) (by assumption) ?_
  rotate_left
  · intro w hSw; have hcw := HC0.out w hSw; go_simp; try with_reducible rfl
  try simp only [Act.put, List.setIfInBounds_toArray, List.set_cons_zero, List.set_cons_succ]
  refine wpAnyH_take (i := 18) (oi := ⟨some 52, _, _, _, _, some (15, true)⟩) (v := ?_) rfl (by kernel_rfl) (by kernel_rfl) (by kernel_rfl) (fun _ _ _ h => h) (Or.inl ⟨by rfl, ?_⟩) (by assumption) ?_
  rotate_left
  · intro w hSw; go_simp; try with_reducible rfl
  try simp only [Act.put, List.setIfInBounds_toArray, List.set_cons_zero, List.set_cons_succ]
  refine wpAnyH_take (i := 19) (oi := ⟨some 53, _, _, _, _, some (15, true)⟩) (v := ?_) rfl (by kernel_rfl) (by kernel_rfl) (by kernel_rfl) (fun _ _ _ h => h) (Or.inl ⟨by rfl, ?_⟩) (by assumption) ?_
  rotate_left
  · intro w hSw; go_simp; try with_reducible rfl
  try simp only [Act.put, List.setIfInBounds_toArray, List.set_cons_zero, List.set_cons_succ]
  refine wpAnyH_take (i := 20) (oi := ⟨some 54, _, _, _, _, some (15, true)⟩) (v := ?_) rfl (by kernel_rfl) (by kernel_rfl) (by kernel_rfl) (fun _ _ _ h => h) (Or.inl ⟨by rfl, ?_⟩) (by assumption) ?_
  rotate_left
  · intro w hSw; have hcw := HCE.out w hSw; go_simp; try with_reducible rfl
  try simp only [Act.put, List.setIfInBounds_toArray, List.set_cons_zero, List.set_cons_succ]
  refine wpAnyH_take (i := 21) (oi := ⟨some 55, .load 23 (.tmp 3), _, _, _, some (15, true)⟩) (v := _) rfl (by kernel_rfl) (by kernel_rfl) (by kernel_rfl) (fun _ _ _ h => h) (yieldsIf_load_mid (by rfl) 23 (.tmp 3) (by rfl) _ (0) (by rfl) _ _ (fun _ hs => HMD.out _ hs) und25 rfl (by rw [len_bvs, Hl.out]; exact size25)) (by assumption) ?_
  try simp only [Act.put, List.setIfInBounds_toArray, List.set_cons_zero, List.set_cons_succ]
  refine wpAnyH_take (i := 22) (oi := ⟨some 56, _, _, _, _, some (15, true)⟩) (v := ?_) rfl (by kernel_rfl) (by kernel_rfl) (by kernel_rfl) (fun _ _ _ h => h) (Or.inl ⟨by rfl, ?_⟩) (by assumption) ?_
  rotate_left
  · intro w hSw; go_simp; try with_reducible rfl
  try simp only [Act.put, List.setIfInBounds_toArray, List.set_cons_zero, List.set_cons_succ]
  refine wpAnyH_ready (rs := [23]) (by kernel_rfl) (by simp) ?_
  refine AllReadyH.cons (o := ⟨some 57, _, _, _, _, some (15, true)⟩) rfl (fun K hK => ?_) AllReadyH.nil
  go_simp
  refine (rderive_any m (n : Int) 1 _ Hl.out (by omega) (by omega) (by omega) (by omega)).mono ?_
  rintro e' w13 ⟨v13, rfl, hr13, hB13⟩
  have hC13 := hC12.belowG hB13
  refine hK.out _ _ (hC13) (fun hHeld => ?_)
  clear hK K
  try simp only [Act.put, List.setIfInBounds_toArray, List.set_cons_zero, List.set_cons_succ]
  refine wpAnyH_ready (rs := [24]) (by kernel_rfl) (by simp) ?_
  refine AllReadyH.cons (o := ⟨some 58, _, _, _, _, some (15, true)⟩) rfl (fun K hK => ?_) AllReadyH.nil
  go_simp
  refine (same_b _ _ d d _ _ _ (HDU.out _ hC13) (by rw [Hd.out]; exact hr13)).mono ?_
  rintro e' w14 ⟨rfl, hB14⟩
  rw [decide_eq_true rfl]
  have hC14 := hC13.belowG hB14
  refine hK.out _ _ (hC14) (fun hHeld => ?_)
  clear hK K
  try simp only [Act.put, List.setIfInBounds_toArray, List.set_cons_zero, List.set_cons_succ]
  refine wpAnyH_take (i := 25) (oi := ⟨some 59, _, _, _, _, none⟩) (v := ?_) rfl (by kernel_rfl) (by kernel_rfl) (by kernel_rfl) (fun _ _ _ h => h) (Or.inl ⟨by rfl, ?_⟩) (by assumption) ?_
  rotate_left
  · intro w hSw; go_simp; try with_reducible rfl
  try simp only [Act.put, List.setIfInBounds_toArray, List.set_cons_zero, List.set_cons_succ]
  refine wpAnyH_take (i := 26) (oi := ⟨some 6, _, _, _, _, none⟩) (v := ?_) rfl (by kernel_rfl) (by kernel_rfl) (by kernel_rfl) (fun _ _ _ h => h) (Or.inl ⟨by rfl, ?_⟩) (by assumption) ?_
  rotate_left
  · intro w hSw; go_simp; try with_reducible rfl
  try simp only [Act.put, List.setIfInBounds_toArray, List.set_cons_zero, List.set_cons_succ]
  refine wpAnyH_done (by kernel_rfl) ?_ _
  refine NoPanic.normal ?_
  go_wp2
  go_ret
  exact ⟨rfl, hBq.trans (hC14.below.mono hBq.size)⟩
end Go.Proofs.YtcbojdbmfjhkiaaDoor
