/- T5: several texts in one (T1 T2 T3 T4 T5). -/
import Derived.Test.YtnhhbbjkeekneaaGreatDoorSA
import Derived.Test.YtnhhbbjkeekneaaGreatDoorVA
import Derived.Test.YtnhhbbjkeekneaaGreatDoorM1
import Derived.Deep.RegionHeld3
import Derived.Stop.BytesEq
import Derived.Deep.DeepCutAuto
/- T1: layer 3: the tag as a list function; contracts of filled, behind, Derive. -/
namespace Go.V
open Go.RowKit
def xorB (m : UInt8) (k : List UInt8) : List UInt8 := k.map (· ^^^ m)
theorem len_xorB (m : UInt8) (k : List UInt8) : (xorB m k).length = k.length := by simp [xorB]
theorem xor8_out (a b : UInt8) : bits BinOp.xor IntKind.u8 (a.toNat : Int) (b.toNat : Int) = ((a ^^^ b).toNat : Int) := by
  have := a.toNat_lt
  have := b.toNat_lt
  rw [u8_xor_nat _ _ (by omega) (by omega), UInt8.toNat_xor]
end Go.V
namespace Go.Proofs.YtnhhbbjkeekneaaGreatDoor
open Go.RowKit Go.V
def keyF (key : List UInt8) : List UInt8 := (if 64 < key.length then shaF key else key) ++ List.replicate (64 - (if 64 < key.length then shaF key else key).length) 0
def tagF (key text : List UInt8) : List UInt8 := shaF (xorB 0x5c (keyF key) ++ shaF (xorB 0x36 (keyF key) ++ text))
theorem len_tag (key text : List UInt8) : (tagF key text).length = 32 := len_sha _
theorem keyF_of (key p : List UInt8) (h : p = if 64 < key.length then shaF key else key) : keyF key = p ++ List.replicate (64 - p.length) 0 := by rw [h]; rfl
theorem key_le (key p : List UInt8) (h : p = if 64 < key.length then shaF key else key) : p.length ≤ 64 := by
  rw [h]
  by_cases h6 : 64 < key.length
  · rw [if_pos h6, len_sha]; omega
  · rw [if_neg h6]; omega
theorem len_key (key : List UInt8) : (keyF key).length = 64 := by
  have := key_le key _ rfl
  rw [keyF_of key _ rfl, List.length_append, List.length_replicate]
  omega
theorem size35 : (Tryz.prog.info? 135).map (·.size) = some 64 := by kernel_rfl
theorem zero35 : (Tryz.prog.info? 135).map (·.zero) = some (some (.agg (zs8 64).toArray)) := by kernel_rfl
theorem und35 : Tryz.prog.underlying 135 = some (.array 64 5) := Tryz.underlying135

theorem set35 (l : List UInt8) (hl : l.length = 64) : (zs8 64).take 0 ++ bvs l ++ (zs8 64).drop (0 + (bvs l).length) = bvs l := by
  rw [List.take_zero, List.nil_append, len_bvs, hl, List.drop_of_length_le (by simp [zs8]), List.append_nil]
/-- what stands behind the copying -/
theorem key_row (p : List UInt8) (_hp : p.length ≤ 64) : splice (zs8 64) 0 (bvs p) = bvs (p ++ List.replicate (64 - p.length) 0) := by
  unfold splice zs8 bvs
  rw [List.take_zero, List.nil_append, List.drop_replicate, List.map_append, List.map_replicate, List.length_map, Nat.zero_add]
  rfl

set_option maxRecDepth 100000 in
set_option maxHeartbeats 1000000 in
theorem filled_any (v : Value) (key : List UInt8) (F : Nat → Prop) (w : World) (hK : KS w) (ht : Rd w F v (bys key)) (hn : key.length ≤ 17592186044416) :
    Calls Tryz.prog 84 #[v] w fun e w' => e = .returned (.agg (bvs (keyF key)).toArray) ∧ Below w.heap.size w w' := by
  obtain ⟨A, c, rfl⟩ := ht.shape
  have hz := Blk.new' w 135 (zs8 64)
  have hB := (Below.refl w.heap.size w).alloc (Nat.le_refl _) (.cells (zs8 64).toArray 135)
  have hr := ht.below hB
  by_cases h6 : 64 < key.length
  · have Hk := hid (keyF_of key (shaF key) (by rw [if_pos h6]))
    obtain ⟨p, hp⟩ : ∃ p, p = shaF key := ⟨_, rfl⟩
    have Hp := hid hp
    rw [← hp] at Hk
    clear hp
    go_enter Tryz.func84, Tryz.ntmps84
    go_wp2_with (refine wp_new 135 rfl rfl zero35 ?_)
    refine (sum_any _ key F _ (hK.below hB) hr (by omega)).mono ?_
    rintro e w1 ⟨rfl, hB1⟩
    rw [← Hp.out]
    have hz1 := hz.below hB1
    have hb1 := hB.trans (hB1.mono hB.size)
    have hlp : Hid (p.length = 32) := by show _ = _; rw [Hp.out]; exact len_sha key
    have hz3 := Blk.new' w1 32 (zs8 32)
    have hz2 := hz1.alloc (.cells (zs8 32).toArray 32)
    have hb2 := hb1.alloc hb1.size (.cells (zs8 32).toArray 32)
    have hsl := fun W => run_sla_all und25 size8 w1.heap.size 0 (by omega) W
    have hz1l := hz1.lt
    go_wp2_with (first | (refine wp_new 32 rfl rfl zero25 ?_) | (refine wp_st 32 (.tmp 3) (.tmp 9) rfl rfl rfl (f := 0) rfl (l := bvs p) rfl hz3 (by simp [zs8, len_bvs, hlp.out]) (by rw [len_bvs, hlp.out]; exact size25) (oneCell_bvs _) ?_; intro w4 hb4 hG4; refine wp_stop ?_))
    rw [set25 _ hlp.out] at hb4
    have hB4 := hb2.grown hG4 hb2.size (by intro k hk; injection hk with hk; have := hb1.size; omega)
    have hz4 := hz2.keep (hG4.block _ hz2.lt (by intro e; injection e with e; omega))
    have hr4 := Blk.rdcut hb4 32 32 (by rw [hlp.out]; omega) (by omega) (by simp [maxLen])
    rw [List.take_of_length_le (by rw [hlp.out]; omega)] at hr4
    have hz5 := hz4.alloc (.cells (zs8 64).toArray 135)
    have hb5 := hB4.alloc hB4.size (.cells (zs8 64).toArray 135)
    have hk5 := Blk.new' w4 135 (zs8 64)
    have hr5 := hr4.below ((Below.refl _ _).alloc (Nat.le_refl _) (.cells (zs8 64).toArray 135))
    have hsl5 := fun W => run_sla_all und35 size8 w4.heap.size 0 (by omega) W
    have hs5 := hr5.src
    rw [hlp.out] at hs5
    have hz4l := hz4.lt
    refine wp_go ?_
    go_wp2_with (first | (refine wp_new 135 rfl rfl zero35 ?_) | (refine wp_copyB (.tmp 11) (.tmp 12) slB rfl rfl rfl rfl hk5 hs5 (oneCell_bvs p) (by omega) (fun _ => rfl) (by simp [zs8]) ?_; intro w6 hb6 hG6; refine wp_stop ?_))
    rw [key_row p (by rw [hlp.out]; omega), ← Hk.out] at hb6
    have hB6 := hb5.grown hG6 hb5.size (by intro k hk; injection hk with hk; have := hB4.size; omega)
    have hz6 := hz5.keep (hG6.block _ hz5.lt (by intro e; injection e with e; omega))
    have hlk : Hid ((keyF key).length = 64) := len_key key
    clear hz5 hb5 hk5 hr5 hsl5 hs5 hb4 hr4 hz4 hG6 hG4 hB4 hz3 hz2 hb2 hsl hb1 hz1 hB1
    refine wp_go ?_
    go_wp2_with (first | (refine wp_ld (o := ⟨some 14, _, _, _, _, _⟩) 135 (.tmp 4) rfl rfl rfl hb6.whole und35 rfl (by rw [len_bvs, hlk.out]; exact size35) ?_) | (refine wp_st 135 (.tmp 2) (.tmp 14) rfl rfl rfl (f := 0) rfl (l := bvs (keyF key)) rfl hz6 (by simp [zs8, len_bvs, hlk.out]) (by rw [len_bvs, hlk.out]; exact size35) (oneCell_bvs _) ?_; intro w7 hb7 hG7))
    rw [set35 _ hlk.out] at hb7
    refine ret_cell rfl rfl hb7.whole und35 rfl (by rw [len_bvs, hlk.out]; exact size35) rfl ?_
    exact ⟨rfl, hB6.grown hG7 hB6.size (by intro k hk; injection hk with hk; omega)⟩
  · have Hk := hid (keyF_of key key (by rw [if_neg h6]))
    have hlk : Hid ((keyF key).length = 64) := len_key key
    obtain ⟨w0, hw0⟩ : ∃ w0, w0 = w.alloc (.cells (zs8 64).toArray 135) := ⟨_, rfl⟩
    rw [← hw0] at hz hB hr
    have H0 := hid hw0
    clear hw0
    have hz5 := hz.alloc (.cells (zs8 64).toArray 135)
    have hb5 := hB.alloc hB.size (.cells (zs8 64).toArray 135)
    have hk5 := Blk.new' w0 135 (zs8 64)
    have hr5 := hr.below ((Below.refl _ _).alloc (Nat.le_refl _) (.cells (zs8 64).toArray 135))
    have hsl5 := fun W => run_sla_all und35 size8 w0.heap.size 0 (by omega) W
    have hs5 := hr5.src
    have hzl := hz.lt
    go_enter Tryz.func84, Tryz.ntmps84
    go_wp2_with (refine wp_new 135 rfl rfl zero35 ?_; rw [← H0.out]; refine wp_stop ?_)
    clear H0
    refine wp_go ?_
    go_wp2_with (first | (refine wp_new 135 rfl rfl zero35 ?_) | (refine wp_copyB (.tmp 11) (.tmp 12) slB rfl rfl rfl rfl hk5 hs5 (oneCell_bvs key) (by omega) (fun _ => rfl) (by simp [zs8]; omega) ?_; intro w6 hb6 hG6; refine wp_stop ?_))
    rw [key_row key (by omega), ← Hk.out] at hb6
    have hB6 := hb5.grown hG6 hb5.size (by intro k hk; injection hk with hk; have := hB.size; omega)
    have hz6 := hz5.keep (hG6.block _ hz5.lt (by intro e; injection e with e; omega))
    clear hz5 hb5 hk5 hr5 hsl5 hs5 hr hz hG6
    refine wp_go ?_
    go_wp2_with (first | (refine wp_ld (o := ⟨some 14, _, _, _, _, _⟩) 135 (.tmp 4) rfl rfl rfl hb6.whole und35 rfl (by rw [len_bvs, hlk.out]; exact size35) ?_) | (refine wp_st 135 (.tmp 2) (.tmp 14) rfl rfl rfl (f := 0) rfl (l := bvs (keyF key)) rfl hz6 (by simp [zs8, len_bvs, hlk.out]) (by rw [len_bvs, hlk.out]; exact size35) (oneCell_bvs _) ?_; intro w7 hb7 hG7))
    rw [set35 _ hlk.out] at hb7
    refine ret_cell rfl rfl hb7.whole und35 rfl (by rw [len_bvs, hlk.out]; exact size35) rfl ?_
    exact ⟨rfl, hB6.grown hG7 hB6.size (by intro k hk; injection hk with hk; omega)⟩

end Go.Proofs.YtnhhbbjkeekneaaGreatDoor
/- T2: layer 3: contracts of behind, Derive. -/
namespace Go.Proofs.YtnhhbbjkeekneaaGreatDoor
open Go.RowKit Go.V
/-- the first i bytes turned, the rest noughts -/
def bhR (m : UInt8) (k : List UInt8) (L i : Nat) : List Value := (bvs (xorB m k ++ List.replicate L 0)).take i ++ List.replicate (64 + L - i) (.int .u8 0)
theorem bhR_len (m : UInt8) (k : List UInt8) (L i : Nat) (hk : k.length = 64) (hi : i ≤ 64) : (bhR m k L i).length = 64 + L := by
  simp [bhR, len_bvs, len_xorB, hk]; omega
theorem bhR_0 (m : UInt8) (k : List UInt8) (L : Nat) : bhR m k L 0 = zs8 (64 + L) := by simp [bhR, zs8]
theorem bhR_set (m : UInt8) (k : List UInt8) (L i : Nat) (hk : k.length = 64) (hi : i < 64) (c : UInt8) (hc : k[i]? = some c) : (bhR m k L i).set i (byteV (c ^^^ m)) = bhR m k L (i + 1) := by
  unfold bhR
  refine fill_set _ _ (64 + L) i (by simp [len_bvs, len_xorB, hk]) (by omega) _ ?_
  refine bvs_at _ _ _ ?_
  rw [List.getElem?_append_left (by rw [len_xorB, hk]; exact hi)]
  simp [xorB, hc]
theorem bhR_end (m : UInt8) (k t : List UInt8) (hk : k.length = 64) : splice (bhR m k t.length 64) 64 (bvs t) = bvs (xorB m k ++ t) := by
  have hl : (bvs (xorB m k)).length = 64 := by rw [len_bvs, len_xorB, hk]
  have e : bhR m k t.length 64 = bvs (xorB m k) ++ zs8 t.length := by
    unfold bhR
    rw [show bvs (xorB m k ++ List.replicate t.length 0) = bvs (xorB m k) ++ bvs (List.replicate t.length 0) from by simp [bvs], List.take_append_of_le_length (by omega), List.take_of_length_le (by omega), show 64 + t.length - 64 = t.length from by omega]
    rfl
  unfold splice
  rw [e, List.take_append_of_le_length (by omega), List.take_of_length_le (by omega), List.drop_of_length_le (by simp [len_bvs, len_xorB, hk, zs8]), List.append_nil]
  simp [bvs]
theorem cut64 (g L : Nat) : ∃ A c, sliced (some ⟨g, 0, none⟩) 64 (64 + L) (64 + L) 1 = .slice A L c ∧ (0 < L → A = some ⟨g, 64, none⟩) := by
  refine ⟨if 64 + L = 64 then some ⟨g, 0, none⟩ else some ⟨g, 64, none⟩, L, ?_, fun h => if_neg (by omega)⟩
  unfold sliced
  rw [show 64 + L - 64 = L from by omega, Option.map_some, add_mk]
set_option maxRecDepth 100000 in
set_option maxHeartbeats 1000000 in
theorem behind_any (k : List UInt8) (m : UInt8) (v : Value) (text : List UInt8) (F : Nat → Prop) (w : World) (hk : k.length = 64) (ht : Rd w F v (bys text)) (hn : text.length ≤ 17592186044416) :
    Calls Tryz.prog 85 #[.agg (bvs k).toArray, .int .u8 (m.toNat : Int), v] w fun e w' => ∃ v', e = .returned v' ∧ w'.ownsRow w.heap.size 5 1 v' (64 + text.length) (bvs (xorB m k ++ text)) ∧ Below w.heap.size w w' := by
  obtain ⟨A, c, rfl⟩ := ht.shape
  have ht := ht.weak (F' := fun b => b < w.heap.size) (fun b hb _ => hb)
  have Hk := hid hk
  have hb3 := Blk.new' w 135 (bvs k)
  have hB := (Below.refl w.heap.size w).alloc (Nat.le_refl _) (.cells (bvs k).toArray 135)
  have hr := ht.below hB
  obtain ⟨L, hL⟩ : ∃ L, L = text.length := ⟨_, rfl⟩
  rw [← hL] at hn
  have HL := hid hL
  go_enter Tryz.func85, Tryz.ntmps85
  rw [← hL]
  clear hk hL
  go_wp2_with (refine wp_mk slB rfl (.tmp 12) (.tmp 12) rfl rfl (64 + L) (congrArg (Value.int .i64) (by omega)) (congrArg (Value.int .i64) (by omega)) (by omega) (by simp only [maxLen]; omega) (zs8 (64 + L)) rfl ?_; refine wp_stop ?_)
  have b1 : Blk ((w.alloc (.cells (bvs k).toArray 135)).alloc (.cells (zs8 (64 + L)).toArray 5)) (w.heap.size + 1) 5 (zs8 (64 + L)) := by
    have := Blk.new' (w.alloc (.cells (bvs k).toArray 135)) 5 (zs8 (64 + L))
    simpa using this
  have b0 := hb3.alloc (.cells (zs8 (64 + L)).toArray 5)
  have hB1 := hB.alloc (by simp) (.cells (zs8 (64 + L)).toArray 5)
  have hr1 := hr.below ((Below.refl _ _).alloc (Nat.le_refl _) (.cells (zs8 (64 + L)).toArray 5))
  obtain ⟨w0, hw0⟩ : ∃ w0, w0 = ((w.alloc (.cells (bvs k).toArray 135)).alloc (.cells (zs8 (64 + L)).toArray 5)) := ⟨_, rfl⟩
  rw [← hw0] at b0 b1 hB1 hr1 ⊢
  clear hw0 hb3 hB hr ht
  refine wp_go ?_
  go_wp2_with (refine wp_ld 135 (.tmp 3) rfl rfl rfl b0.whole und35 rfl (by rw [len_bvs, Hk.out]; exact size35) ?_)
  rw [← bhR_0 m k L] at b1
  go_loopw [15] (fun iv wr => ∃ i : Nat, i ≤ 64 ∧ iv = .int .i64 i ∧ Blk wr (w.heap.size + 1) 5 (bhR m k L i) ∧ Below w.heap.size w wr ∧ Below (w.heap.size + 1) w0 wr) (fun iv _ => 64 - (intOf iv).toNat)
  case atStart => exact ⟨0, by omega, rfl, b1, hB1, Below.refl _ _⟩
  case round =>
    obtain ⟨i, hi, rfl, hb, hBw, hBr⟩ := hrel
    by_cases hil : i < 64
    · obtain ⟨x, hx⟩ : ∃ x, k[i]? = some x := ⟨_, List.getElem?_eq_getElem (by rw [Hk.out]; exact hil)⟩
      have hpx := bvs_at k i x hx
      unfold byteV at hpx
      have hset := hid (bhR_set m k L i Hk.out hil x hx)
      have hln := hid (bhR_len m k L i Hk.out hi)
      have HX := hid hx
      clear hx
      go_wp2_with (first | (refine wp_idx 135 (.tmp 14) (.tmp 15) rfl rfl rfl rfl und35 hil Tryz.isAgg5 size8 hpx ?_) | (refine wp_st1 5 (.tmp 24) (.tmp 23) rfl rfl rfl (f := i) rfl (v := byteV (x ^^^ m)) (congrArg (Value.int .u8) (xor8_out x m)) hb (by rw [hln.out]; omega) size8 rfl rfl ?_; intro w3 hb3 hG3))
      rw [hset.out] at hb3
      have hB3 := hBw.grown hG3 hBw.size (by intro k hk; injection hk with hk; omega)
      have hR3 := hBr.grown hG3 (by have := hb.lt; omega) (by intro k hk; injection hk with hk; omega)
      go_wp2
      go_roundw
      case rel => exact ⟨i + 1, by omega, by go_num, hb3, hB3, hR3⟩
      case measure => simp [intOf]; omega
    · have h64 : i = 64 := by omega
      subst h64
      obtain ⟨A2, c2, hsl, hA2⟩ := cut64 (w.heap.size + 1) L
      have hcut := fun W => run_cut_l slB (some ⟨w.heap.size + 1, 0, none⟩) (64 + L) (64 + L) 64 (by omega) (by omega) W
      rw [show (64 : Int).toNat = 64 from rfl, hsl] at hcut
      have hsr := (hr1.keep (F' := fun b => b < w.heap.size) (fun b hb hf => ⟨hf, hBr.block b (by omega)⟩)).src
      rw [← HL.out] at hsr
      have hend := hid (bhR_end m k text Hk.out)
      rw [← HL.out] at hend
      have hln := hid (bhR_len m k L 64 Hk.out hi)
      clear hsl hil
      go_wp2_with (refine wp_copyB (.tmp 27) (.tmp 28) slB rfl rfl rfl rfl hb hsr (oneCell_bvs text) (Nat.le_refl _) hA2 (by rw [hln.out]; omega) ?_; intro w5 hb5 hG5)
      rw [hend.out] at hb5
      have hB5 := hBw.grown hG5 hBw.size (by intro k hk; injection hk with hk; omega)
      go_ret
      exact ⟨_, rfl, own_of_blk hb5 (by omega) _ (by rw [len_bvs, List.length_append, len_xorB, Hk.out, ← HL.out]) (by simp only [maxLen]; omega), hB5⟩

end Go.Proofs.YtnhhbbjkeekneaaGreatDoor
/- T3: layer 3: contracts of Tag, Check, Vector. -/
namespace Go.Proofs.YtnhhbbjkeekneaaGreatDoor
open Go.RowKit Go.V
set_option maxRecDepth 100000 in
set_option maxHeartbeats 1000000 in
theorem tag_any (kv tv : Value) (key text : List UInt8) (F G : Nat → Prop) (w : World) (hK : KS w) (hk : Rd w F kv (bys key)) (ht : Rd w G tv (bys text)) (hn : key.length ≤ 17592186044416) (hm : text.length ≤ 17592186044416) :
    Calls Tryz.prog 55 #[kv, tv] w fun e w' => e = .returned (.agg (bvs (tagF key text)).toArray) ∧ Below w.heap.size w w' := by
  obtain ⟨A, c, rfl⟩ := hk.shape
  obtain ⟨A2, c2, rfl⟩ := ht.shape
  have hz := Blk.new' w 32 (zs8 32)
  have hB := (Below.refl w.heap.size w).alloc (Nat.le_refl _) (.cells (zs8 32).toArray 32)
  have hk1 := hk.below hB
  have ht := ht.weak (F' := fun b => b < w.heap.size) (fun b hb _ => hb)
  have ht1 := ht.below hB
  obtain ⟨k, hkk⟩ : ∃ k, k = keyF key := ⟨_, rfl⟩
  have hkl : Hid (k.length = 64) := by show _ = _; rw [hkk]; exact len_key key
  have Hk := hid hkk
  clear hkk
  have hK0 := hK
  go_enter Tryz.func55, Tryz.ntmps55
  go_wp2_with (refine wp_new 32 rfl rfl zero25 ?_)
  refine (filled_any _ key F _ (hK.below hB) hk1 hn).mono ?_
  rintro e w1 ⟨rfl, hB1⟩
  rw [← Hk.out]
  have hB1' := hB.trans (hB1.mono hB.size)
  have hz1 := hz.below hB1
  have ht1 := ht1.below hB1
  have b5 := Blk.new' w1 135 (zs8 64)
  have hB2 := hB1'.alloc hB1'.size (.cells (zs8 64).toArray 135)
  have hz2 := hz1.alloc (.cells (zs8 64).toArray 135)
  have ht2 := ht1.below ((Below.refl _ _).alloc (Nat.le_refl _) (.cells (zs8 64).toArray 135))
  have hz1l := hz1.lt
  go_wp2_with (first | (refine wp_new 135 rfl rfl zero35 ?_) | (refine wp_st 135 (.tmp 5) (.tmp 8) rfl rfl rfl (f := 0) rfl (l := bvs k) rfl b5 (by simp [zs8, len_bvs, hkl.out]) (by rw [len_bvs, hkl.out]; exact size35) (oneCell_bvs _) ?_; intro w3 hb3 hG3; refine wp_stop ?_))
  rw [set35 _ hkl.out] at hb3
  have hB3 := hB2.grown hG3 hB2.size (by intro k hk; injection hk with hk; have := hB1'.size; omega)
  have hz3 := hz2.keep (hG3.block _ hz2.lt (by intro e; injection e with e; omega))
  have hs1 := hB1'.size
  have ht3 := ht2.keep (F' := fun b => b < w.heap.size) (fun b hb hf => ⟨hf, hG3.block b hb (by intro e; injection e with e; omega)⟩)
  have hs3 := hB3.size
  clear hG3 hz2 hB2 b5 hz1 ht2 ht1 hB1
  refine wp_go ?_
  go_wp2_with (refine wp_ld (o := ⟨some 9, _, _, _, _, _⟩) 135 (.tmp 5) rfl rfl rfl hb3.whole und35 rfl (by rw [len_bvs, hkl.out]; exact size35) ?_)
  rw [show Value.int .u8 54 = .int .u8 (((0x36 : UInt8).toNat : Nat) : Int) from rfl]
  refine (behind_any k 0x36 _ text _ _ hkl.out ht3 hm).mono ?_
  rintro e w4 ⟨v4, rfl, ho4, hB4⟩
  have hB4' := hB3.trans (hB4.mono hB3.size)
  have hr4 := Rd.of_own ho4
  have hz4 := hz3.below hB4
  have hb4 := hb3.below hB4
  go_wp2_with (fail)
  refine (sum_any _ (xorB 0x36 k ++ text) _ _ (hK.below hB4') hr4 (by rw [List.length_append, len_xorB, hkl.out]; omega)).mono ?_
  rintro e w5 ⟨rfl, hB5⟩
  obtain ⟨d, hd⟩ : ∃ d, d = shaF (xorB 0x36 k ++ text) := ⟨_, rfl⟩
  rw [← hd]
  have hdl : Hid (d.length = 32) := by show _ = _; rw [hd]; exact len_sha _
  have Hd := hid hd
  clear hd
  have hB5' := hB4'.trans (hB5.mono hB4'.size)
  have hz5 := hz4.below hB5
  have hb5 := hb4.below hB5
  have hz5l := hz5.lt
  have hb5l := hb5.lt
  have hn5 := Blk.new' w5 32 (zs8 32)
  have hB6 := hB5'.alloc hB5'.size (.cells (zs8 32).toArray 32)
  have hz6 := hz5.alloc (.cells (zs8 32).toArray 32)
  have hb6 := hb5.alloc (.cells (zs8 32).toArray 32)
  go_wp2_with (first | (refine wp_new 32 rfl rfl zero25 ?_) | (refine wp_st 32 (.tmp 6) (.tmp 12) rfl rfl rfl (f := 0) rfl (l := bvs d) rfl hn5 (by simp [zs8, len_bvs, hdl.out]) (by rw [len_bvs, hdl.out]; exact size25) (oneCell_bvs _) ?_; intro w7 hd7 hG7; refine wp_stop ?_))
  rw [set25 _ hdl.out] at hd7
  have hB7 := hB6.grown hG7 hB6.size (by intro k hk; injection hk with hk; have := hB5'.size; omega)
  have hz7 := hz6.keep (hG7.block _ hz6.lt (by intro e; injection e with e; omega))
  have hb7 := hb6.keep (hG7.block _ hb6.lt (by intro e; injection e with e; omega))
  have hs5 := hB5'.size
  obtain ⟨g6, hg6⟩ : ∃ g, g = w5.heap.size := ⟨_, rfl⟩
  obtain ⟨g5, hg5⟩ : ∃ g, g = w1.heap.size := ⟨_, rfl⟩
  obtain ⟨g4, hg4⟩ : ∃ g, g = w.heap.size := ⟨_, rfl⟩
  rw [← hg6] at hd7 ⊢
  rw [← hg5] at hb7 ⊢
  rw [← hg4] at hz7 ⊢
  have n46 : ¬ g6 = g4 := by omega
  have n45 : ¬ g5 = g4 := by omega
  have h4 : w.heap.size ≤ g4 := by omega
  have hrd := Blk.rdcut hd7 32 32 (by rw [hdl.out]; omega) (by omega) (by simp [maxLen])
  rw [List.take_of_length_le (by rw [hdl.out]; omega)] at hrd
  clear hg6 hg5 hg4 hG7 hn5 hz6 hb6 hB6 hz5 hb5 hB5 hB5' hB4 hB4' hr4 ho4 hz4 hb4 hb3 hz3 ht3 hB3 hs3 hs5 hz5l hb5l hz1l hB1'
  refine wp_go ?_
  go_wp2
  have hsl6 := fun W => run_sla_all und25 size8 g6 0 (by omega) W
  refine wp_region_noPanic ?_
  refine wp_region_held_drew (S := Ch (fun b => b = g4) w7) (by kernel_rfl) ((Ch.refl _ _).drew) (fun hHeld => ?_)
  refine tkY 0 rfl (yieldsIf_load_mid (by rfl) 135 (.tmp 5) (by rfl) _ (0) (by rfl) _ _ (fun _ hs => hb7.chAt n45 hs) und35 rfl (by rw [len_bvs, hkl.out]; exact size35)) ?_
  refine tkP 1 rfl ?_
  refine rdH 2 rfl (fun K hK => ?_)
  go_simp
  rw [show Value.int .u8 92 = .int .u8 (((0x5c : UInt8).toNat : Nat) : Int) from rfl]
  refine (behind_any k 0x5c _ d _ _ hkl.out (hrd.ch hHeld (fun b hb => by rw [hb]; exact n46)) (by rw [hdl.out]; omega)).mono ?_
  rintro e' w8 ⟨v8, rfl, ho8, hB8⟩
  have hr8 := Rd.of_own ho8
  have hz8 := hz7.drew.below hB8
  have hBd := hB7.drew.trans (hB8.mono hB7.size)
  refine hK.out _ _ (hHeld.belowG hB8) (fun hHeld => ?_)
  clear hK K
  try simp only [nP]
  refine rdH 3 rfl (fun K hK => ?_)
  go_simp
  refine (sum_any _ (xorB 0x5c k ++ d) _ _ (hK0.below hBd) hr8 (by rw [List.length_append, len_xorB, hkl.out, hdl.out]; omega)).mono ?_
  rintro e' w9 ⟨rfl, hB9⟩
  have hz9 := hz8.below hB9
  have hBe := hBd.trans (hB9.mono hBd.size)
  obtain ⟨r, hr⟩ : ∃ r, r = shaF (xorB 0x5c k ++ d) := ⟨_, rfl⟩
  rw [← hr]
  have hrl : Hid (r.length = 32) := by show _ = _; rw [hr]; exact len_sha _
  have Hr := hid hr
  clear hr
  refine hK.out _ _ (hHeld.belowG hB9) (fun hHeld => ?_)
  clear hK K
  try simp only [nP]
  refine rdH 4 rfl (fun K hK => ?_)
  refine step_st 32 (.tmp 4) (.tmp 16) (by rfl) (by rfl) (by rfl) (f := 0) (by rfl) (l := bvs r) (by rfl) hz9 (by simp [zs8, len_bvs, hrl.out]) (by rw [len_bvs, hrl.out]; exact size25) (oneCell_bvs _) ?_
  intro w10 hb10 hG10
  refine hK.out _ _ (hHeld.grow hG10 (fun k hk => .inl (by injection hk with hk; exact hk.symm))) (fun hHeld => ?_)
  clear hK K
  try simp only [nP]
  refine wpAnyH_done (by kernel_rfl) ?_ _
  refine NoPanic.normal ?_
  rw [set25 _ hrl.out] at hb10
  go_wp2
  refine ret_cell rfl rfl hb10.whole und25 rfl (by rw [len_bvs, hrl.out]; exact size25) rfl ?_
  refine ⟨?_, hBe.grown hG10 hBe.size (by intro k hk; injection hk with hk; omega)⟩
  unfold tagF
  rw [← Hk.out, ← Hd.out, ← Hr.out]


theorem eqH (p q : List UInt8) (hp : p.length = 32) (hq : q.length = 32) : ∀ W : World, (Op.equalIn 10000 32 (.agg (bvs p).toArray) (.agg (bvs q).toArray)).run Tryz.prog W = .ok (p == q) W := fun W =>
  run_equalIn_bytes (P := Tryz.prog) W 9998 32 5 32 und25 Tryz.underlying5 Tryz.sizeOf5 p q hp hq
end Go.Proofs.YtnhhbbjkeekneaaGreatDoor
/- T4: layer 3: contract of Vector. -/
namespace Go.V
open Go.RowKit
theorem flat_at (z : List Value) (hz : 0 < z.length) : ∀ (n j : Nat), ((List.replicate n z).flatten)[j]? = if j < n * z.length then z[j % z.length]? else none
  | 0, j => by simp
  | n + 1, j => by
    rw [List.replicate_succ, List.flatten_cons]
    by_cases h : j < z.length
    · rw [List.getElem?_append_left h, Nat.mod_eq_of_lt h, if_pos (by rw [Nat.succ_mul]; omega)]
    · rw [List.getElem?_append_right (by omega), flat_at z hz n, show j % z.length = (j - z.length) % z.length from (Nat.mod_eq_sub_mod (by omega))]
      congr 1
      rw [Nat.succ_mul]
      exact propext ⟨fun h => by omega, fun h => by omega⟩
end Go.V
namespace Go.Proofs.YtnhhbbjkeekneaaGreatDoor
open Go.RowKit Go.V
end Go.Proofs.YtnhhbbjkeekneaaGreatDoor
/- T5: layer 3: contracts of the document's Tag and Derive. -/
namespace Go.V
open Go.RowKit
/-- rows of two variables in blocks apart -/
def Apt (a b : Value) : Prop := ∀ k, a.ownBlock = some k → b.ownBlock ≠ some k
theorem Apt.symm {a b : Value} (h : Apt a b) : Apt b a := fun k hk hb => h k hb hk
theorem Apt.step {a b a' : Value} {n : Nat} (h : Apt a b) (hat : a'.ownBlock = a.ownBlock ∨ ∃ g, a'.ownBlock = some g ∧ n ≤ g) (hb : ∀ k, b.ownBlock = some k → k < n) : Apt a' b := by
  intro k hk hkb
  rcases hat with e | ⟨g, e, hg⟩
  · exact h k (e.symm.trans hk) hkb
  · rw [e] at hk
    injection hk with hk
    have := hb k hkb
    omega
end Go.V
namespace Go.Proofs.YtnhhbbjkeekneaaGreatDoor
open Go.RowKit Go.V
end Go.Proofs.YtnhhbbjkeekneaaGreatDoor
