/- T5: several texts in one (T3 T4 T5). -/
import Derived.Test.YtnhhbbjkeekneaaDoorT2
import Derived.Deep.RegionHeld3
import Derived.Stop.BytesEq
import Derived.Deep.DeepCutAuto
/- T3: layer 3: contracts of Tag, Check, Vector. -/
namespace Go.Proofs.YtnhhbbjkeekneaaDoor
open Go.RowKit Go.V
set_option maxRecDepth 100000 in
set_option maxHeartbeats 1000000 in
theorem tag_any (kv tv : Value) (key text : List UInt8) (F G : Nat → Prop) (w : World) (hK : KS w) (hk : Rd w F kv (bys key)) (ht : Rd w G tv (bys text)) (hn : key.length ≤ 17592186044416) (hm : text.length ≤ 17592186044416) :
    Calls Tryd.prog 34 #[kv, tv] w fun e w' => e = .returned (.agg (bvs (tagF key text)).toArray) ∧ Below w.heap.size w w' := by
  obtain ⟨A, c, rfl⟩ := hk.shape
  obtain ⟨A2, c2, rfl⟩ := ht.shape
  have hz := Blk.new' w 46 (zs8 32)
  have hB := (Below.refl w.heap.size w).alloc (Nat.le_refl _) (.cells (zs8 32).toArray 46)
  have hk1 := hk.below hB
  have ht := ht.weak (F' := fun b => b < w.heap.size) (fun b hb _ => hb)
  have ht1 := ht.below hB
  obtain ⟨k, hkk⟩ : ∃ k, k = keyF key := ⟨_, rfl⟩
  have hkl : Hid (k.length = 64) := by show _ = _; rw [hkk]; exact len_key key
  have Hk := hid hkk
  clear hkk
  have hK0 := hK
  go_enter Tryd.func34, Tryd.ntmps34
  go_wp2_with (refine wp_new 46 rfl rfl zero25 ?_)
  refine (filled_any _ key F _ (hK.below hB) hk1 hn).mono ?_
  rintro e w1 ⟨rfl, hB1⟩
  rw [← Hk.out]
  have hB1' := hB.trans (hB1.mono hB.size)
  have hz1 := hz.below hB1
  have ht1 := ht1.below hB1
  have b5 := Blk.new' w1 85 (zs8 64)
  have hB2 := hB1'.alloc hB1'.size (.cells (zs8 64).toArray 85)
  have hz2 := hz1.alloc (.cells (zs8 64).toArray 85)
  have ht2 := ht1.below ((Below.refl _ _).alloc (Nat.le_refl _) (.cells (zs8 64).toArray 85))
  have hz1l := hz1.lt
  go_wp2_with (first | (refine wp_new 85 rfl rfl zero35 ?_) | (refine wp_st 85 (.tmp 5) (.tmp 8) rfl rfl rfl (f := 0) rfl (l := bvs k) rfl b5 (by simp [zs8, len_bvs, hkl.out]) (by rw [len_bvs, hkl.out]; exact size35) (oneCell_bvs _) ?_; intro w3 hb3 hG3; refine wp_stop ?_))
  rw [set35 _ hkl.out] at hb3
  have hB3 := hB2.grown hG3 hB2.size (by intro k hk; injection hk with hk; have := hB1'.size; omega)
  have hz3 := hz2.keep (hG3.block _ hz2.lt (by intro e; injection e with e; omega))
  have hs1 := hB1'.size
  have ht3 := ht2.keep (F' := fun b => b < w.heap.size) (fun b hb hf => ⟨hf, hG3.block b hb (by intro e; injection e with e; omega)⟩)
  have hs3 := hB3.size
  clear hG3 hz2 hB2 b5 hz1 ht2 ht1 hB1
  refine wp_go ?_
  go_wp2_with (refine wp_ld (o := ⟨some 9, _, _, _, _, _⟩) 85 (.tmp 5) rfl rfl rfl hb3.whole und35 rfl (by rw [len_bvs, hkl.out]; exact size35) ?_)
  rw [show Value.int .u8 54 = .int .u8 (((0x36 : UInt8).toNat : Nat) : Int) from rfl]
  refine (behind_any k 0x36 _ text _ _ hkl.out ht3 hm).mono ?_
  rintro e w4 ⟨v4, rfl, ho4, hB4⟩
  have hB4' := hB3.trans (hB4.mono hB3.size)
  have hr4 := Rd.of_own ho4
  have hz4 := hz3.below hB4
  have hb4 := hb3.below hB4
  go_wp2_with (fail)
  refine (sum_any _ (xorB 0x36 k ++ text) _ _ (hK.below hB4') hr4 (by rw [List.length_append, len_xorB, hkl.out]; omega)).mono ?_
  rintro e w5 ⟨rfl, hB5⟩
  obtain ⟨d, hd⟩ : ∃ d, d = shaF (xorB 0x36 k ++ text) := ⟨_, rfl⟩
  rw [← hd]
  have hdl : Hid (d.length = 32) := by show _ = _; rw [hd]; exact len_sha _
  have Hd := hid hd
  clear hd
  have hB5' := hB4'.trans (hB5.mono hB4'.size)
  have hz5 := hz4.below hB5
  have hb5 := hb4.below hB5
  have hz5l := hz5.lt
  have hb5l := hb5.lt
  have hn5 := Blk.new' w5 46 (zs8 32)
  have hB6 := hB5'.alloc hB5'.size (.cells (zs8 32).toArray 46)
  have hz6 := hz5.alloc (.cells (zs8 32).toArray 46)
  have hb6 := hb5.alloc (.cells (zs8 32).toArray 46)
  go_wp2_with (first | (refine wp_new 46 rfl rfl zero25 ?_) | (refine wp_st 46 (.tmp 6) (.tmp 12) rfl rfl rfl (f := 0) rfl (l := bvs d) rfl hn5 (by simp [zs8, len_bvs, hdl.out]) (by rw [len_bvs, hdl.out]; exact size25) (oneCell_bvs _) ?_; intro w7 hd7 hG7; refine wp_stop ?_))
  rw [set25 _ hdl.out] at hd7
  have hB7 := hB6.grown hG7 hB6.size (by intro k hk; injection hk with hk; have := hB5'.size; omega)
  have hz7 := hz6.keep (hG7.block _ hz6.lt (by intro e; injection e with e; omega))
  have hb7 := hb6.keep (hG7.block _ hb6.lt (by intro e; injection e with e; omega))
  have hs5 := hB5'.size
  obtain ⟨g6, hg6⟩ : ∃ g, g = w5.heap.size := ⟨_, rfl⟩
  obtain ⟨g5, hg5⟩ : ∃ g, g = w1.heap.size := ⟨_, rfl⟩
  obtain ⟨g4, hg4⟩ : ∃ g, g = w.heap.size := ⟨_, rfl⟩
  rw [← hg6] at hd7 ⊢
  rw [← hg5] at hb7 ⊢
  rw [← hg4] at hz7 ⊢
  have n46 : ¬ g6 = g4 := by omega
  have n45 : ¬ g5 = g4 := by omega
  have h4 : w.heap.size ≤ g4 := by omega
  have hrd := Blk.rdcut hd7 32 32 (by rw [hdl.out]; omega) (by omega) (by simp [maxLen])
  rw [List.take_of_length_le (by rw [hdl.out]; omega)] at hrd
  clear hg6 hg5 hg4 hG7 hn5 hz6 hb6 hB6 hz5 hb5 hB5 hB5' hB4 hB4' hr4 ho4 hz4 hb4 hb3 hz3 ht3 hB3 hs3 hs5 hz5l hb5l hz1l hB1'
  refine wp_go ?_
  go_wp2
  have hsl6 := fun W => run_sla_all und25 size8 g6 0 (by omega) W
  refine wp_region_noPanic ?_
  refine wp_region_held_drew (S := Ch (fun b => b = g4) w7) (by kernel_rfl) ((Ch.refl _ _).drew) (fun hHeld => ?_)
  refine wpAnyH_take (i := 0) (oi := ⟨some 13, .load 85 (.tmp 5), _, _, _, none⟩) (v := _) rfl (by kernel_rfl) (by kernel_rfl) (by kernel_rfl) (fun _ _ _ h => h) (yieldsIf_load_mid (by rfl) 85 (.tmp 5) (by rfl) _ (0) (by rfl) _ _ (fun _ hs => hb7.chAt n45 hs) und35 rfl (by rw [len_bvs, hkl.out]; exact size35)) (by assumption) ?_
  try simp only [Act.put, List.setIfInBounds_toArray, List.set_cons_zero, List.set_cons_succ]
  refine wpAnyH_take (i := 1) (oi := ⟨some 14, _, _, _, _, none⟩) (v := ?_) rfl (by kernel_rfl) (by kernel_rfl) (by kernel_rfl) (fun _ _ _ h => h) (Or.inl ⟨by rfl, ?_⟩) (by assumption) ?_
  rotate_left
  · intro w hSw; go_simp; try with_reducible rfl
  try simp only [Act.put, List.setIfInBounds_toArray, List.set_cons_zero, List.set_cons_succ]
  refine wpAnyH_ready (rs := [2]) (by kernel_rfl) (by simp) ?_
  refine AllReadyH.cons (o := ⟨some 15, _, _, _, _, none⟩) rfl (fun K hK => ?_) AllReadyH.nil
  go_simp
  rw [show Value.int .u8 92 = .int .u8 (((0x5c : UInt8).toNat : Nat) : Int) from rfl]
  refine (behind_any k 0x5c _ d _ _ hkl.out (hrd.ch hHeld (fun b hb => by rw [hb]; exact n46)) (by rw [hdl.out]; omega)).mono ?_
  rintro e' w8 ⟨v8, rfl, ho8, hB8⟩
  have hr8 := Rd.of_own ho8
  have hz8 := hz7.drew.below hB8
  have hBd := hB7.drew.trans (hB8.mono hB7.size)
  refine hK.out _ _ (hHeld.belowG hB8) (fun hHeld => ?_)
  clear hK K
  try simp only [Act.put, List.setIfInBounds_toArray, List.set_cons_zero, List.set_cons_succ]
  refine wpAnyH_ready (rs := [3]) (by kernel_rfl) (by simp) ?_
  refine AllReadyH.cons (o := ⟨some 16, _, _, _, _, none⟩) rfl (fun K hK => ?_) AllReadyH.nil
  go_simp
  refine (sum_any _ (xorB 0x5c k ++ d) _ _ (hK0.below hBd) hr8 (by rw [List.length_append, len_xorB, hkl.out, hdl.out]; omega)).mono ?_
  rintro e' w9 ⟨rfl, hB9⟩
  have hz9 := hz8.below hB9
  have hBe := hBd.trans (hB9.mono hBd.size)
  obtain ⟨r, hr⟩ : ∃ r, r = shaF (xorB 0x5c k ++ d) := ⟨_, rfl⟩
  rw [← hr]
  have hrl : Hid (r.length = 32) := by show _ = _; rw [hr]; exact len_sha _
  have Hr := hid hr
  clear hr
  refine hK.out _ _ (hHeld.belowG hB9) (fun hHeld => ?_)
  clear hK K
  try simp only [Act.put, List.setIfInBounds_toArray, List.set_cons_zero, List.set_cons_succ]
  refine wpAnyH_ready (rs := [4]) (by kernel_rfl) (by simp) ?_
  refine AllReadyH.cons (o := ⟨none, .store 46 (.tmp 4) (.tmp 16), _, _, _, none⟩) rfl (fun K hK => ?_) AllReadyH.nil
  refine step_st 46 (.tmp 4) (.tmp 16) (by rfl) (by rfl) (by rfl) (f := 0) (by rfl) (l := bvs r) (by rfl) hz9 (by simp [zs8, len_bvs, hrl.out]) (by rw [len_bvs, hrl.out]; exact size25) (oneCell_bvs _) ?_
  intro w10 hb10 hG10
  refine hK.out _ _ (hHeld.grow hG10 (fun k hk => .inl (by injection hk with hk; exact hk.symm))) (fun hHeld => ?_)
  clear hK K
  try simp only [Act.put, List.setIfInBounds_toArray, List.set_cons_zero, List.set_cons_succ]
  refine wpAnyH_done (by kernel_rfl) ?_ _
  refine NoPanic.normal ?_
  rw [set25 _ hrl.out] at hb10
  go_wp2
  refine ret_cell rfl rfl hb10.whole und25 rfl (by rw [len_bvs, hrl.out]; exact size25) rfl ?_
  refine ⟨?_, hBe.grown hG10 hBe.size (by intro k hk; injection hk with hk; omega)⟩
  unfold tagF
  rw [← Hk.out, ← Hd.out, ← Hr.out]


theorem eqH (p q : List UInt8) (hp : p.length = 32) (hq : q.length = 32) : ∀ W : World, (Op.equalIn 10000 46 (.agg (bvs p).toArray) (.agg (bvs q).toArray)).run Tryd.prog W = .ok (p == q) W := fun W =>
  run_equalIn_bytes (P := Tryd.prog) W 9998 46 5 32 und25 Tryd.underlying5 Tryd.sizeOf5 p q hp hq
end Go.Proofs.YtnhhbbjkeekneaaDoor
/- T4: layer 3: contract of Vector. -/
namespace Go.V
open Go.RowKit
end Go.V
namespace Go.Proofs.YtnhhbbjkeekneaaDoor
open Go.RowKit Go.V
end Go.Proofs.YtnhhbbjkeekneaaDoor
/- T5: layer 3: contracts of the document's Tag and Derive. -/
namespace Go.V
open Go.RowKit
/-- rows of two variables in blocks apart -/
def Apt (a b : Value) : Prop := ∀ k, a.ownBlock = some k → b.ownBlock ≠ some k
theorem Apt.symm {a b : Value} (h : Apt a b) : Apt b a := fun k hk hb => h k hb hk
end Go.V
namespace Go.Proofs.YtnhhbbjkeekneaaDoor
open Go.RowKit Go.V
end Go.Proofs.YtnhhbbjkeekneaaDoor
