/- T1: layer 3: the tag as a list function; contracts of filled, behind, Derive. -/
import Derived.Test.YtnhhbbjkeekneaaDoorSA
import Derived.Test.YtnhhbbjkeekneaaDoorVA
namespace Go.V
open Go.RowKit
def xorB (m : UInt8) (k : List UInt8) : List UInt8 := k.map (· ^^^ m)
theorem len_xorB (m : UInt8) (k : List UInt8) : (xorB m k).length = k.length := by simp [xorB]
theorem xor8_out (a b : UInt8) : bits BinOp.xor IntKind.u8 (a.toNat : Int) (b.toNat : Int) = ((a ^^^ b).toNat : Int) := by
  have := a.toNat_lt
  have := b.toNat_lt
  rw [u8_xor_nat _ _ (by omega) (by omega), UInt8.toNat_xor]
end Go.V
namespace Go.Proofs.YtnhhbbjkeekneaaDoor
open Go.RowKit Go.V
def keyF (key : List UInt8) : List UInt8 := (if 64 < key.length then shaF key else key) ++ List.replicate (64 - (if 64 < key.length then shaF key else key).length) 0
def tagF (key text : List UInt8) : List UInt8 := shaF (xorB 0x5c (keyF key) ++ shaF (xorB 0x36 (keyF key) ++ text))
theorem len_tag (key text : List UInt8) : (tagF key text).length = 32 := len_sha _
theorem keyF_of (key p : List UInt8) (h : p = if 64 < key.length then shaF key else key) : keyF key = p ++ List.replicate (64 - p.length) 0 := by rw [h]; rfl
theorem key_le (key p : List UInt8) (h : p = if 64 < key.length then shaF key else key) : p.length ≤ 64 := by
  rw [h]
  by_cases h6 : 64 < key.length
  · rw [if_pos h6, len_sha]; omega
  · rw [if_neg h6]; omega
theorem len_key (key : List UInt8) : (keyF key).length = 64 := by
  have := key_le key _ rfl
  rw [keyF_of key _ rfl, List.length_append, List.length_replicate]
  omega
theorem size35 : (Tryd.prog.info? 85).map (·.size) = some 64 := by kernel_rfl
theorem zero35 : (Tryd.prog.info? 85).map (·.zero) = some (some (.agg (zs8 64).toArray)) := by kernel_rfl
theorem und35 : Tryd.prog.underlying 85 = some (.array 64 5) := Tryd.underlying85

theorem set35 (l : List UInt8) (hl : l.length = 64) : (zs8 64).take 0 ++ bvs l ++ (zs8 64).drop (0 + (bvs l).length) = bvs l := by
  rw [List.take_zero, List.nil_append, len_bvs, hl, List.drop_of_length_le (by simp [zs8]), List.append_nil]
/-- what stands behind the copying -/
theorem key_row (p : List UInt8) (_hp : p.length ≤ 64) : splice (zs8 64) 0 (bvs p) = bvs (p ++ List.replicate (64 - p.length) 0) := by
  unfold splice zs8 bvs
  rw [List.take_zero, List.nil_append, List.drop_replicate, List.map_append, List.map_replicate, List.length_map, Nat.zero_add]
  rfl

set_option maxRecDepth 100000 in
set_option maxHeartbeats 1000000 in
theorem filled_any (v : Value) (key : List UInt8) (F : Nat → Prop) (w : World) (hK : KS w) (ht : Rd w F v (bys key)) (hn : key.length ≤ 17592186044416) :
    Calls Tryd.prog 42 #[v] w fun e w' => e = .returned (.agg (bvs (keyF key)).toArray) ∧ Below w.heap.size w w' := by
  obtain ⟨A, c, rfl⟩ := ht.shape
  have hz := Blk.new' w 85 (zs8 64)
  have hB := (Below.refl w.heap.size w).alloc (Nat.le_refl _) (.cells (zs8 64).toArray 85)
  have hr := ht.below hB
  by_cases h6 : 64 < key.length
  · have Hk := hid (keyF_of key (shaF key) (by rw [if_pos h6]))
    obtain ⟨p, hp⟩ : ∃ p, p = shaF key := ⟨_, rfl⟩
    have Hp := hid hp
    rw [← hp] at Hk
    clear hp
    go_enter Tryd.func42, Tryd.ntmps42
    go_wp2_with (refine wp_new 85 rfl rfl zero35 ?_)
    refine (sum_any _ key F _ (hK.below hB) hr (by omega)).mono ?_
    rintro e w1 ⟨rfl, hB1⟩
    rw [← Hp.out]
    have hz1 := hz.below hB1
    have hb1 := hB.trans (hB1.mono hB.size)
    have hlp : Hid (p.length = 32) := by show _ = _; rw [Hp.out]; exact len_sha key
    have hz3 := Blk.new' w1 46 (zs8 32)
    have hz2 := hz1.alloc (.cells (zs8 32).toArray 46)
    have hb2 := hb1.alloc hb1.size (.cells (zs8 32).toArray 46)
    have hsl := fun W => run_sla_all und25 size8 w1.heap.size 0 (by omega) W
    have hz1l := hz1.lt
    go_wp2_with (first | (refine wp_new 46 rfl rfl zero25 ?_) | (refine wp_st 46 (.tmp 3) (.tmp 9) rfl rfl rfl (f := 0) rfl (l := bvs p) rfl hz3 (by simp [zs8, len_bvs, hlp.out]) (by rw [len_bvs, hlp.out]; exact size25) (oneCell_bvs _) ?_; intro w4 hb4 hG4; refine wp_stop ?_))
    rw [set25 _ hlp.out] at hb4
    have hB4 := hb2.grown hG4 hb2.size (by intro k hk; injection hk with hk; have := hb1.size; omega)
    have hz4 := hz2.keep (hG4.block _ hz2.lt (by intro e; injection e with e; omega))
    have hr4 := Blk.rdcut hb4 32 32 (by rw [hlp.out]; omega) (by omega) (by simp [maxLen])
    rw [List.take_of_length_le (by rw [hlp.out]; omega)] at hr4
    have hz5 := hz4.alloc (.cells (zs8 64).toArray 85)
    have hb5 := hB4.alloc hB4.size (.cells (zs8 64).toArray 85)
    have hk5 := Blk.new' w4 85 (zs8 64)
    have hr5 := hr4.below ((Below.refl _ _).alloc (Nat.le_refl _) (.cells (zs8 64).toArray 85))
    have hsl5 := fun W => run_sla_all und35 size8 w4.heap.size 0 (by omega) W
    have hs5 := hr5.src
    rw [hlp.out] at hs5
    have hz4l := hz4.lt
    refine wp_go ?_
    go_wp2_with (first | (refine wp_new 85 rfl rfl zero35 ?_) | (refine wp_copyB (.tmp 11) (.tmp 12) slB rfl rfl rfl rfl hk5 hs5 (oneCell_bvs p) (by omega) (fun _ => rfl) (by simp [zs8]) ?_; intro w6 hb6 hG6; refine wp_stop ?_))
    rw [key_row p (by rw [hlp.out]; omega), ← Hk.out] at hb6
    have hB6 := hb5.grown hG6 hb5.size (by intro k hk; injection hk with hk; have := hB4.size; omega)
    have hz6 := hz5.keep (hG6.block _ hz5.lt (by intro e; injection e with e; omega))
    have hlk : Hid ((keyF key).length = 64) := len_key key
    clear hz5 hb5 hk5 hr5 hsl5 hs5 hb4 hr4 hz4 hG6 hG4 hB4 hz3 hz2 hb2 hsl hb1 hz1 hB1
    refine wp_go ?_
    go_wp2_with (first | (refine wp_ld (o := ⟨some 14, _, _, _, _, _⟩) 85 (.tmp 4) rfl rfl rfl hb6.whole und35 rfl (by rw [len_bvs, hlk.out]; exact size35) ?_) | (refine wp_st 85 (.tmp 2) (.tmp 14) rfl rfl rfl (f := 0) rfl (l := bvs (keyF key)) rfl hz6 (by simp [zs8, len_bvs, hlk.out]) (by rw [len_bvs, hlk.out]; exact size35) (oneCell_bvs _) ?_; intro w7 hb7 hG7))
    rw [set35 _ hlk.out] at hb7
    refine ret_cell rfl rfl hb7.whole und35 rfl (by rw [len_bvs, hlk.out]; exact size35) rfl ?_
    exact ⟨rfl, hB6.grown hG7 hB6.size (by intro k hk; injection hk with hk; omega)⟩
  · have Hk := hid (keyF_of key key (by rw [if_neg h6]))
    have hlk : Hid ((keyF key).length = 64) := len_key key
    obtain ⟨w0, hw0⟩ : ∃ w0, w0 = w.alloc (.cells (zs8 64).toArray 85) := ⟨_, rfl⟩
    rw [← hw0] at hz hB hr
    have H0 := hid hw0
    clear hw0
    have hz5 := hz.alloc (.cells (zs8 64).toArray 85)
    have hb5 := hB.alloc hB.size (.cells (zs8 64).toArray 85)
    have hk5 := Blk.new' w0 85 (zs8 64)
    have hr5 := hr.below ((Below.refl _ _).alloc (Nat.le_refl _) (.cells (zs8 64).toArray 85))
    have hsl5 := fun W => run_sla_all und35 size8 w0.heap.size 0 (by omega) W
    have hs5 := hr5.src
    have hzl := hz.lt
    go_enter Tryd.func42, Tryd.ntmps42
    go_wp2_with (refine wp_new 85 rfl rfl zero35 ?_; rw [← H0.out]; refine wp_stop ?_)
    clear H0
    refine wp_go ?_
    go_wp2_with (first | (refine wp_new 85 rfl rfl zero35 ?_) | (refine wp_copyB (.tmp 11) (.tmp 12) slB rfl rfl rfl rfl hk5 hs5 (oneCell_bvs key) (by omega) (fun _ => rfl) (by simp [zs8]; omega) ?_; intro w6 hb6 hG6; refine wp_stop ?_))
    rw [key_row key (by omega), ← Hk.out] at hb6
    have hB6 := hb5.grown hG6 hb5.size (by intro k hk; injection hk with hk; have := hB.size; omega)
    have hz6 := hz5.keep (hG6.block _ hz5.lt (by intro e; injection e with e; omega))
    clear hz5 hb5 hk5 hr5 hsl5 hs5 hr hz hG6
    refine wp_go ?_
    go_wp2_with (first | (refine wp_ld (o := ⟨some 14, _, _, _, _, _⟩) 85 (.tmp 4) rfl rfl rfl hb6.whole und35 rfl (by rw [len_bvs, hlk.out]; exact size35) ?_) | (refine wp_st 85 (.tmp 2) (.tmp 14) rfl rfl rfl (f := 0) rfl (l := bvs (keyF key)) rfl hz6 (by simp [zs8, len_bvs, hlk.out]) (by rw [len_bvs, hlk.out]; exact size35) (oneCell_bvs _) ?_; intro w7 hb7 hG7))
    rw [set35 _ hlk.out] at hb7
    refine ret_cell rfl rfl hb7.whole und35 rfl (by rw [len_bvs, hlk.out]; exact size35) rfl ?_
    exact ⟨rfl, hB6.grown hG7 hB6.size (by intro k hk; injection hk with hk; omega)⟩

end Go.Proofs.YtnhhbbjkeekneaaDoor
