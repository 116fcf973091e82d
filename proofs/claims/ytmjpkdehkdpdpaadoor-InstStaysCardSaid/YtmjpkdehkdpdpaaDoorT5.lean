/- T5: several texts in one (T1 T2 T3 T4 T5). -/
import Derived.Test.YtmjpkdehkdpdpaaDoorSA
import Derived.Test.YtmjpkdehkdpdpaaDoorVA
import Derived.Deep.RegionHeld3
import Derived.Stop.BytesEq
import Derived.Deep.DeepCutAuto
/- T1: layer 3: the tag as a list function; contracts of filled, behind, Derive. -/
namespace Go.V
open Go.RowKit
def xorB (m : UInt8) (k : List UInt8) : List UInt8 := k.map (· ^^^ m)
theorem len_xorB (m : UInt8) (k : List UInt8) : (xorB m k).length = k.length := by simp [xorB]
theorem xor8_out (a b : UInt8) : bits BinOp.xor IntKind.u8 (a.toNat : Int) (b.toNat : Int) = ((a ^^^ b).toNat : Int) := by
  have := a.toNat_lt
  have := b.toNat_lt
  rw [u8_xor_nat _ _ (by omega) (by omega), UInt8.toNat_xor]
end Go.V
namespace Go.Proofs.YtmjpkdehkdpdpaaDoor
open Go.RowKit Go.V
def keyF (key : List UInt8) : List UInt8 := (if 64 < key.length then shaF key else key) ++ List.replicate (64 - (if 64 < key.length then shaF key else key).length) 0
def tagF (key text : List UInt8) : List UInt8 := shaF (xorB 0x5c (keyF key) ++ shaF (xorB 0x36 (keyF key) ++ text))
theorem len_tag (key text : List UInt8) : (tagF key text).length = 32 := len_sha _
theorem keyF_of (key p : List UInt8) (h : p = if 64 < key.length then shaF key else key) : keyF key = p ++ List.replicate (64 - p.length) 0 := by rw [h]; rfl
theorem key_le (key p : List UInt8) (h : p = if 64 < key.length then shaF key else key) : p.length ≤ 64 := by
  rw [h]
  by_cases h6 : 64 < key.length
  · rw [if_pos h6, len_sha]; omega
  · rw [if_neg h6]; omega
theorem len_key (key : List UInt8) : (keyF key).length = 64 := by
  have := key_le key _ rfl
  rw [keyF_of key _ rfl, List.length_append, List.length_replicate]
  omega
theorem size35 : (Tryd.prog.info? 110).map (·.size) = some 64 := by kernel_rfl
theorem zero35 : (Tryd.prog.info? 110).map (·.zero) = some (some (.agg (zs8 64).toArray)) := by kernel_rfl
theorem und35 : Tryd.prog.underlying 110 = some (.array 64 5) := Tryd.underlying110

theorem set35 (l : List UInt8) (hl : l.length = 64) : (zs8 64).take 0 ++ bvs l ++ (zs8 64).drop (0 + (bvs l).length) = bvs l := by
  rw [List.take_zero, List.nil_append, len_bvs, hl, List.drop_of_length_le (by simp [zs8]), List.append_nil]
/-- what stands behind the copying -/
theorem key_row (p : List UInt8) (_hp : p.length ≤ 64) : splice (zs8 64) 0 (bvs p) = bvs (p ++ List.replicate (64 - p.length) 0) := by
  unfold splice zs8 bvs
  rw [List.take_zero, List.nil_append, List.drop_replicate, List.map_append, List.map_replicate, List.length_map, Nat.zero_add]
  rfl

set_option maxRecDepth 100000 in
set_option maxHeartbeats 1000000 in
theorem filled_any (v : Value) (key : List UInt8) (F : Nat → Prop) (w : World) (hK : KS w) (ht : Rd w F v (bys key)) (hn : key.length ≤ 17592186044416) :
    Calls Tryd.prog 54 #[v] w fun e w' => e = .returned (.agg (bvs (keyF key)).toArray) ∧ Below w.heap.size w w' := by
  obtain ⟨A, c, rfl⟩ := ht.shape
  have hz := Blk.new' w 110 (zs8 64)
  have hB := (Below.refl w.heap.size w).alloc (Nat.le_refl _) (.cells (zs8 64).toArray 110)
  have hr := ht.below hB
  by_cases h6 : 64 < key.length
  · have Hk := hid (keyF_of key (shaF key) (by rw [if_pos h6]))
    obtain ⟨p, hp⟩ : ∃ p, p = shaF key := ⟨_, rfl⟩
    have Hp := hid hp
    rw [← hp] at Hk
    clear hp
    go_enter Tryd.func54, Tryd.ntmps54
    go_wp2_with (refine wp_new 110 rfl rfl zero35 ?_)
    refine (sum_any _ key F _ (hK.below hB) hr (by omega)).mono ?_
    rintro e w1 ⟨rfl, hB1⟩
    rw [← Hp.out]
    have hz1 := hz.below hB1
    have hb1 := hB.trans (hB1.mono hB.size)
    have hlp : Hid (p.length = 32) := by show _ = _; rw [Hp.out]; exact len_sha key
    have hz3 := Blk.new' w1 41 (zs8 32)
    have hz2 := hz1.alloc (.cells (zs8 32).toArray 41)
    have hb2 := hb1.alloc hb1.size (.cells (zs8 32).toArray 41)
    have hsl := fun W => run_sla_all und25 size8 w1.heap.size 0 (by omega) W
    have hz1l := hz1.lt
    go_wp2_with (first | (refine wp_new 41 rfl rfl zero25 ?_) | (refine wp_st 41 (.tmp 3) (.tmp 9) rfl rfl rfl (f := 0) rfl (l := bvs p) rfl hz3 (by simp [zs8, len_bvs, hlp.out]) (by rw [len_bvs, hlp.out]; exact size25) (oneCell_bvs _) ?_; intro w4 hb4 hG4; refine wp_stop ?_))
    rw [set25 _ hlp.out] at hb4
    have hB4 := hb2.grown hG4 hb2.size (by intro k hk; injection hk with hk; have := hb1.size; omega)
    have hz4 := hz2.keep (hG4.block _ hz2.lt (by intro e; injection e with e; omega))
    have hr4 := Blk.rdcut hb4 32 32 (by rw [hlp.out]; omega) (by omega) (by simp [maxLen])
    rw [List.take_of_length_le (by rw [hlp.out]; omega)] at hr4
    have hz5 := hz4.alloc (.cells (zs8 64).toArray 110)
    have hb5 := hB4.alloc hB4.size (.cells (zs8 64).toArray 110)
    have hk5 := Blk.new' w4 110 (zs8 64)
    have hr5 := hr4.below ((Below.refl _ _).alloc (Nat.le_refl _) (.cells (zs8 64).toArray 110))
    have hsl5 := fun W => run_sla_all und35 size8 w4.heap.size 0 (by omega) W
    have hs5 := hr5.src
    rw [hlp.out] at hs5
    have hz4l := hz4.lt
    refine wp_go ?_
    go_wp2_with (first | (refine wp_new 110 rfl rfl zero35 ?_) | (refine wp_copyB (.tmp 11) (.tmp 12) slB rfl rfl rfl rfl hk5 hs5 (oneCell_bvs p) (by omega) (fun _ => rfl) (by simp [zs8]) ?_; intro w6 hb6 hG6; refine wp_stop ?_))
    rw [key_row p (by rw [hlp.out]; omega), ← Hk.out] at hb6
    have hB6 := hb5.grown hG6 hb5.size (by intro k hk; injection hk with hk; have := hB4.size; omega)
    have hz6 := hz5.keep (hG6.block _ hz5.lt (by intro e; injection e with e; omega))
    have hlk : Hid ((keyF key).length = 64) := len_key key
    clear hz5 hb5 hk5 hr5 hsl5 hs5 hb4 hr4 hz4 hG6 hG4 hB4 hz3 hz2 hb2 hsl hb1 hz1 hB1
    refine wp_go ?_
    go_wp2_with (first | (refine wp_ld (o := ⟨some 14, _, _, _, _, _⟩) 110 (.tmp 4) rfl rfl rfl hb6.whole und35 rfl (by rw [len_bvs, hlk.out]; exact size35) ?_) | (refine wp_st 110 (.tmp 2) (.tmp 14) rfl rfl rfl (f := 0) rfl (l := bvs (keyF key)) rfl hz6 (by simp [zs8, len_bvs, hlk.out]) (by rw [len_bvs, hlk.out]; exact size35) (oneCell_bvs _) ?_; intro w7 hb7 hG7))
    rw [set35 _ hlk.out] at hb7
    refine ret_cell rfl rfl hb7.whole und35 rfl (by rw [len_bvs, hlk.out]; exact size35) rfl ?_
    exact ⟨rfl, hB6.grown hG7 hB6.size (by intro k hk; injection hk with hk; omega)⟩
  · have Hk := hid (keyF_of key key (by rw [if_neg h6]))
    have hlk : Hid ((keyF key).length = 64) := len_key key
    obtain ⟨w0, hw0⟩ : ∃ w0, w0 = w.alloc (.cells (zs8 64).toArray 110) := ⟨_, rfl⟩
    rw [← hw0] at hz hB hr
    have H0 := hid hw0
    clear hw0
    have hz5 := hz.alloc (.cells (zs8 64).toArray 110)
    have hb5 := hB.alloc hB.size (.cells (zs8 64).toArray 110)
    have hk5 := Blk.new' w0 110 (zs8 64)
    have hr5 := hr.below ((Below.refl _ _).alloc (Nat.le_refl _) (.cells (zs8 64).toArray 110))
    have hsl5 := fun W => run_sla_all und35 size8 w0.heap.size 0 (by omega) W
    have hs5 := hr5.src
    have hzl := hz.lt
    go_enter Tryd.func54, Tryd.ntmps54
    go_wp2_with (refine wp_new 110 rfl rfl zero35 ?_; rw [← H0.out]; refine wp_stop ?_)
    clear H0
    refine wp_go ?_
    go_wp2_with (first | (refine wp_new 110 rfl rfl zero35 ?_) | (refine wp_copyB (.tmp 11) (.tmp 12) slB rfl rfl rfl rfl hk5 hs5 (oneCell_bvs key) (by omega) (fun _ => rfl) (by simp [zs8]; omega) ?_; intro w6 hb6 hG6; refine wp_stop ?_))
    rw [key_row key (by omega), ← Hk.out] at hb6
    have hB6 := hb5.grown hG6 hb5.size (by intro k hk; injection hk with hk; have := hB.size; omega)
    have hz6 := hz5.keep (hG6.block _ hz5.lt (by intro e; injection e with e; omega))
    clear hz5 hb5 hk5 hr5 hsl5 hs5 hr hz hG6
    refine wp_go ?_
    go_wp2_with (first | (refine wp_ld (o := ⟨some 14, _, _, _, _, _⟩) 110 (.tmp 4) rfl rfl rfl hb6.whole und35 rfl (by rw [len_bvs, hlk.out]; exact size35) ?_) | (refine wp_st 110 (.tmp 2) (.tmp 14) rfl rfl rfl (f := 0) rfl (l := bvs (keyF key)) rfl hz6 (by simp [zs8, len_bvs, hlk.out]) (by rw [len_bvs, hlk.out]; exact size35) (oneCell_bvs _) ?_; intro w7 hb7 hG7))
    rw [set35 _ hlk.out] at hb7
    refine ret_cell rfl rfl hb7.whole und35 rfl (by rw [len_bvs, hlk.out]; exact size35) rfl ?_
    exact ⟨rfl, hB6.grown hG7 hB6.size (by intro k hk; injection hk with hk; omega)⟩

end Go.Proofs.YtmjpkdehkdpdpaaDoor
/- T2: layer 3: contracts of behind, Derive. -/
namespace Go.Proofs.YtmjpkdehkdpdpaaDoor
open Go.RowKit Go.V
/-- the first i bytes turned, the rest noughts -/
def bhR (m : UInt8) (k : List UInt8) (L i : Nat) : List Value := (bvs (xorB m k ++ List.replicate L 0)).take i ++ List.replicate (64 + L - i) (.int .u8 0)
theorem bhR_len (m : UInt8) (k : List UInt8) (L i : Nat) (hk : k.length = 64) (hi : i ≤ 64) : (bhR m k L i).length = 64 + L := by
  simp [bhR, len_bvs, len_xorB, hk]; omega
theorem bhR_0 (m : UInt8) (k : List UInt8) (L : Nat) : bhR m k L 0 = zs8 (64 + L) := by simp [bhR, zs8]
theorem bhR_set (m : UInt8) (k : List UInt8) (L i : Nat) (hk : k.length = 64) (hi : i < 64) (c : UInt8) (hc : k[i]? = some c) : (bhR m k L i).set i (byteV (c ^^^ m)) = bhR m k L (i + 1) := by
  unfold bhR
  refine fill_set _ _ (64 + L) i (by simp [len_bvs, len_xorB, hk]) (by omega) _ ?_
  refine bvs_at _ _ _ ?_
  rw [List.getElem?_append_left (by rw [len_xorB, hk]; exact hi)]
  simp [xorB, hc]
theorem bhR_end (m : UInt8) (k t : List UInt8) (hk : k.length = 64) : splice (bhR m k t.length 64) 64 (bvs t) = bvs (xorB m k ++ t) := by
  have hl : (bvs (xorB m k)).length = 64 := by rw [len_bvs, len_xorB, hk]
  have e : bhR m k t.length 64 = bvs (xorB m k) ++ zs8 t.length := by
    unfold bhR
    rw [show bvs (xorB m k ++ List.replicate t.length 0) = bvs (xorB m k) ++ bvs (List.replicate t.length 0) from by simp [bvs], List.take_append_of_le_length (by omega), List.take_of_length_le (by omega), show 64 + t.length - 64 = t.length from by omega]
    rfl
  unfold splice
  rw [e, List.take_append_of_le_length (by omega), List.take_of_length_le (by omega), List.drop_of_length_le (by simp [len_bvs, len_xorB, hk, zs8]), List.append_nil]
  simp [bvs]
theorem cut64 (g L : Nat) : ∃ A c, sliced (some ⟨g, 0, none⟩) 64 (64 + L) (64 + L) 1 = .slice A L c ∧ (0 < L → A = some ⟨g, 64, none⟩) := by
  refine ⟨if 64 + L = 64 then some ⟨g, 0, none⟩ else some ⟨g, 64, none⟩, L, ?_, fun h => if_neg (by omega)⟩
  unfold sliced
  rw [show 64 + L - 64 = L from by omega, Option.map_some, add_mk]
set_option maxRecDepth 100000 in
set_option maxHeartbeats 1000000 in
theorem behind_any (k : List UInt8) (m : UInt8) (v : Value) (text : List UInt8) (F : Nat → Prop) (w : World) (hk : k.length = 64) (ht : Rd w F v (bys text)) (hn : text.length ≤ 17592186044416) :
    Calls Tryd.prog 56 #[.agg (bvs k).toArray, .int .u8 (m.toNat : Int), v] w fun e w' => ∃ v', e = .returned v' ∧ w'.ownsRow w.heap.size 5 1 v' (64 + text.length) (bvs (xorB m k ++ text)) ∧ Below w.heap.size w w' := by
  obtain ⟨A, c, rfl⟩ := ht.shape
  have ht := ht.weak (F' := fun b => b < w.heap.size) (fun b hb _ => hb)
  have Hk := hid hk
  have hb3 := Blk.new' w 110 (bvs k)
  have hB := (Below.refl w.heap.size w).alloc (Nat.le_refl _) (.cells (bvs k).toArray 110)
  have hr := ht.below hB
  obtain ⟨L, hL⟩ : ∃ L, L = text.length := ⟨_, rfl⟩
  rw [← hL] at hn
  have HL := hid hL
  go_enter Tryd.func56, Tryd.ntmps56
  rw [← hL]
  clear hk hL
  go_wp2_with (refine wp_mk slB rfl (.tmp 12) (.tmp 12) rfl rfl (64 + L) (congrArg (Value.int .i64) (by omega)) (congrArg (Value.int .i64) (by omega)) (by omega) (by simp only [maxLen]; omega) (zs8 (64 + L)) rfl ?_; refine wp_stop ?_)
  have b1 : Blk ((w.alloc (.cells (bvs k).toArray 110)).alloc (.cells (zs8 (64 + L)).toArray 5)) (w.heap.size + 1) 5 (zs8 (64 + L)) := by
    have := Blk.new' (w.alloc (.cells (bvs k).toArray 110)) 5 (zs8 (64 + L))
    simpa using this
  have b0 := hb3.alloc (.cells (zs8 (64 + L)).toArray 5)
  have hB1 := hB.alloc (by simp) (.cells (zs8 (64 + L)).toArray 5)
  have hr1 := hr.below ((Below.refl _ _).alloc (Nat.le_refl _) (.cells (zs8 (64 + L)).toArray 5))
  obtain ⟨w0, hw0⟩ : ∃ w0, w0 = ((w.alloc (.cells (bvs k).toArray 110)).alloc (.cells (zs8 (64 + L)).toArray 5)) := ⟨_, rfl⟩
  rw [← hw0] at b0 b1 hB1 hr1 ⊢
  clear hw0 hb3 hB hr ht
  refine wp_go ?_
  go_wp2_with (refine wp_ld 110 (.tmp 3) rfl rfl rfl b0.whole und35 rfl (by rw [len_bvs, Hk.out]; exact size35) ?_)
  rw [← bhR_0 m k L] at b1
  go_loopw [15] (fun iv wr => ∃ i : Nat, i ≤ 64 ∧ iv = .int .i64 i ∧ Blk wr (w.heap.size + 1) 5 (bhR m k L i) ∧ Below w.heap.size w wr ∧ Below (w.heap.size + 1) w0 wr) (fun iv _ => 64 - (intOf iv).toNat)
  case atStart => exact ⟨0, by omega, rfl, b1, hB1, Below.refl _ _⟩
  case round =>
    obtain ⟨i, hi, rfl, hb, hBw, hBr⟩ := hrel
    by_cases hil : i < 64
    · obtain ⟨x, hx⟩ : ∃ x, k[i]? = some x := ⟨_, List.getElem?_eq_getElem (by rw [Hk.out]; exact hil)⟩
      have hpx := bvs_at k i x hx
      unfold byteV at hpx
      have hset := hid (bhR_set m k L i Hk.out hil x hx)
      have hln := hid (bhR_len m k L i Hk.out hi)
      have HX := hid hx
      clear hx
      go_wp2_with (first | (refine wp_idx 110 (.tmp 14) (.tmp 15) rfl rfl rfl rfl und35 hil Tryd.isAgg5 size8 hpx ?_) | (refine wp_st1 5 (.tmp 24) (.tmp 23) rfl rfl rfl (f := i) rfl (v := byteV (x ^^^ m)) (congrArg (Value.int .u8) (xor8_out x m)) hb (by rw [hln.out]; omega) size8 rfl rfl ?_; intro w3 hb3 hG3))
      rw [hset.out] at hb3
      have hB3 := hBw.grown hG3 hBw.size (by intro k hk; injection hk with hk; omega)
      have hR3 := hBr.grown hG3 (by have := hb.lt; omega) (by intro k hk; injection hk with hk; omega)
      go_wp2
      go_roundw
      case rel => exact ⟨i + 1, by omega, by go_num, hb3, hB3, hR3⟩
      case measure => simp [intOf]; omega
    · have h64 : i = 64 := by omega
      subst h64
      obtain ⟨A2, c2, hsl, hA2⟩ := cut64 (w.heap.size + 1) L
      have hcut := fun W => run_cut_l slB (some ⟨w.heap.size + 1, 0, none⟩) (64 + L) (64 + L) 64 (by omega) (by omega) W
      rw [show (64 : Int).toNat = 64 from rfl, hsl] at hcut
      have hsr := (hr1.keep (F' := fun b => b < w.heap.size) (fun b hb hf => ⟨hf, hBr.block b (by omega)⟩)).src
      rw [← HL.out] at hsr
      have hend := hid (bhR_end m k text Hk.out)
      rw [← HL.out] at hend
      have hln := hid (bhR_len m k L 64 Hk.out hi)
      clear hsl hil
      go_wp2_with (refine wp_copyB (.tmp 27) (.tmp 28) slB rfl rfl rfl rfl hb hsr (oneCell_bvs text) (Nat.le_refl _) hA2 (by rw [hln.out]; omega) ?_; intro w5 hb5 hG5)
      rw [hend.out] at hb5
      have hB5 := hBw.grown hG5 hBw.size (by intro k hk; injection hk with hk; omega)
      go_ret
      exact ⟨_, rfl, own_of_blk hb5 (by omega) _ (by rw [len_bvs, List.length_append, len_xorB, Hk.out, ← HL.out]) (by simp only [maxLen]; omega), hB5⟩

/-- a key derived -/
def devF (m : List UInt8) (who use : Int) : List UInt8 := shaF ((m ++ fx 8 (who % 18446744073709551616).toNat) ++ fx 8 (use % 18446744073709551616).toNat)
theorem len_dev (m : List UInt8) (who use : Int) : (devF m who use).length = 32 := len_sha _
end Go.Proofs.YtmjpkdehkdpdpaaDoor
/- T3: layer 3: contracts of Tag, Check, Vector. -/
namespace Go.Proofs.YtmjpkdehkdpdpaaDoor
open Go.RowKit Go.V
set_option maxRecDepth 100000 in
set_option maxHeartbeats 1000000 in
theorem tag_any (kv tv : Value) (key text : List UInt8) (F G : Nat → Prop) (w : World) (hK : KS w) (hk : Rd w F kv (bys key)) (ht : Rd w G tv (bys text)) (hn : key.length ≤ 17592186044416) (hm : text.length ≤ 17592186044416) :
    Calls Tryd.prog 41 #[kv, tv] w fun e w' => e = .returned (.agg (bvs (tagF key text)).toArray) ∧ Below w.heap.size w w' := by
  obtain ⟨A, c, rfl⟩ := hk.shape
  obtain ⟨A2, c2, rfl⟩ := ht.shape
  have hz := Blk.new' w 41 (zs8 32)
  have hB := (Below.refl w.heap.size w).alloc (Nat.le_refl _) (.cells (zs8 32).toArray 41)
  have hk1 := hk.below hB
  have ht := ht.weak (F' := fun b => b < w.heap.size) (fun b hb _ => hb)
  have ht1 := ht.below hB
  obtain ⟨k, hkk⟩ : ∃ k, k = keyF key := ⟨_, rfl⟩
  have hkl : Hid (k.length = 64) := by show _ = _; rw [hkk]; exact len_key key
  have Hk := hid hkk
  clear hkk
  have hK0 := hK
  go_enter Tryd.func41, Tryd.ntmps41
  go_wp2_with (refine wp_new 41 rfl rfl zero25 ?_)
  refine (filled_any _ key F _ (hK.below hB) hk1 hn).mono ?_
  rintro e w1 ⟨rfl, hB1⟩
  rw [← Hk.out]
  have hB1' := hB.trans (hB1.mono hB.size)
  have hz1 := hz.below hB1
  have ht1 := ht1.below hB1
  have b5 := Blk.new' w1 110 (zs8 64)
  have hB2 := hB1'.alloc hB1'.size (.cells (zs8 64).toArray 110)
  have hz2 := hz1.alloc (.cells (zs8 64).toArray 110)
  have ht2 := ht1.below ((Below.refl _ _).alloc (Nat.le_refl _) (.cells (zs8 64).toArray 110))
  have hz1l := hz1.lt
  go_wp2_with (first | (refine wp_new 110 rfl rfl zero35 ?_) | (refine wp_st 110 (.tmp 5) (.tmp 8) rfl rfl rfl (f := 0) rfl (l := bvs k) rfl b5 (by simp [zs8, len_bvs, hkl.out]) (by rw [len_bvs, hkl.out]; exact size35) (oneCell_bvs _) ?_; intro w3 hb3 hG3; refine wp_stop ?_))
  rw [set35 _ hkl.out] at hb3
  have hB3 := hB2.grown hG3 hB2.size (by intro k hk; injection hk with hk; have := hB1'.size; omega)
  have hz3 := hz2.keep (hG3.block _ hz2.lt (by intro e; injection e with e; omega))
  have hs1 := hB1'.size
  have ht3 := ht2.keep (F' := fun b => b < w.heap.size) (fun b hb hf => ⟨hf, hG3.block b hb (by intro e; injection e with e; omega)⟩)
  have hs3 := hB3.size
  clear hG3 hz2 hB2 b5 hz1 ht2 ht1 hB1
  refine wp_go ?_
  go_wp2_with (refine wp_ld (o := ⟨some 9, _, _, _, _, _⟩) 110 (.tmp 5) rfl rfl rfl hb3.whole und35 rfl (by rw [len_bvs, hkl.out]; exact size35) ?_)
  rw [show Value.int .u8 54 = .int .u8 (((0x36 : UInt8).toNat : Nat) : Int) from rfl]
  refine (behind_any k 0x36 _ text _ _ hkl.out ht3 hm).mono ?_
  rintro e w4 ⟨v4, rfl, ho4, hB4⟩
  have hB4' := hB3.trans (hB4.mono hB3.size)
  have hr4 := Rd.of_own ho4
  have hz4 := hz3.below hB4
  have hb4 := hb3.below hB4
  go_wp2_with (fail)
  refine (sum_any _ (xorB 0x36 k ++ text) _ _ (hK.below hB4') hr4 (by rw [List.length_append, len_xorB, hkl.out]; omega)).mono ?_
  rintro e w5 ⟨rfl, hB5⟩
  obtain ⟨d, hd⟩ : ∃ d, d = shaF (xorB 0x36 k ++ text) := ⟨_, rfl⟩
  rw [← hd]
  have hdl : Hid (d.length = 32) := by show _ = _; rw [hd]; exact len_sha _
  have Hd := hid hd
  clear hd
  have hB5' := hB4'.trans (hB5.mono hB4'.size)
  have hz5 := hz4.below hB5
  have hb5 := hb4.below hB5
  have hz5l := hz5.lt
  have hb5l := hb5.lt
  have hn5 := Blk.new' w5 41 (zs8 32)
  have hB6 := hB5'.alloc hB5'.size (.cells (zs8 32).toArray 41)
  have hz6 := hz5.alloc (.cells (zs8 32).toArray 41)
  have hb6 := hb5.alloc (.cells (zs8 32).toArray 41)
  go_wp2_with (first | (refine wp_new 41 rfl rfl zero25 ?_) | (refine wp_st 41 (.tmp 6) (.tmp 12) rfl rfl rfl (f := 0) rfl (l := bvs d) rfl hn5 (by simp [zs8, len_bvs, hdl.out]) (by rw [len_bvs, hdl.out]; exact size25) (oneCell_bvs _) ?_; intro w7 hd7 hG7; refine wp_stop ?_))
  rw [set25 _ hdl.out] at hd7
  have hB7 := hB6.grown hG7 hB6.size (by intro k hk; injection hk with hk; have := hB5'.size; omega)
  have hz7 := hz6.keep (hG7.block _ hz6.lt (by intro e; injection e with e; omega))
  have hb7 := hb6.keep (hG7.block _ hb6.lt (by intro e; injection e with e; omega))
  have hs5 := hB5'.size
  obtain ⟨g6, hg6⟩ : ∃ g, g = w5.heap.size := ⟨_, rfl⟩
  obtain ⟨g5, hg5⟩ : ∃ g, g = w1.heap.size := ⟨_, rfl⟩
  obtain ⟨g4, hg4⟩ : ∃ g, g = w.heap.size := ⟨_, rfl⟩
  rw [← hg6] at hd7 ⊢
  rw [← hg5] at hb7 ⊢
  rw [← hg4] at hz7 ⊢
  have n46 : ¬ g6 = g4 := by omega
  have n45 : ¬ g5 = g4 := by omega
  have h4 : w.heap.size ≤ g4 := by omega
  have hrd := Blk.rdcut hd7 32 32 (by rw [hdl.out]; omega) (by omega) (by simp [maxLen])
  rw [List.take_of_length_le (by rw [hdl.out]; omega)] at hrd
  clear hg6 hg5 hg4 hG7 hn5 hz6 hb6 hB6 hz5 hb5 hB5 hB5' hB4 hB4' hr4 ho4 hz4 hb4 hb3 hz3 ht3 hB3 hs3 hs5 hz5l hb5l hz1l hB1'
  refine wp_go ?_
  go_wp2
  have hsl6 := fun W => run_sla_all und25 size8 g6 0 (by omega) W
  refine wp_region_noPanic ?_
  refine wp_region_held_drew (S := Ch (fun b => b = g4) w7) (by kernel_rfl) ((Ch.refl _ _).drew) (fun hHeld => ?_)
  refine wpAnyH_take (i := 0) (oi := ⟨some 13, .load 110 (.tmp 5), _, _, _, none⟩) (v := _) rfl (by kernel_rfl) (by kernel_rfl) (by kernel_rfl) (fun _ _ _ h => h) (yieldsIf_load_mid (by rfl) 110 (.tmp 5) (by rfl) _ (0) (by rfl) _ _ (fun _ hs => hb7.chAt n45 hs) und35 rfl (by rw [len_bvs, hkl.out]; exact size35)) (by assumption) ?_
  try simp only [Act.put, List.setIfInBounds_toArray, List.set_cons_zero, List.set_cons_succ]
  refine wpAnyH_take (i := 1) (oi := ⟨some 14, _, _, _, _, none⟩) (v := ?_) rfl (by kernel_rfl) (by kernel_rfl) (by kernel_rfl) (fun _ _ _ h => h) (Or.inl ⟨by rfl, ?_⟩) (by assumption) ?_
  rotate_left
  · intro w hSw; go_simp; try with_reducible rfl
  try simp only [Act.put, List.setIfInBounds_toArray, List.set_cons_zero, List.set_cons_succ]
  refine wpAnyH_ready (rs := [2]) (by kernel_rfl) (by simp) ?_
  refine AllReadyH.cons (o := ⟨some 15, _, _, _, _, none⟩) rfl (fun K hK => ?_) AllReadyH.nil
  go_simp
  rw [show Value.int .u8 92 = .int .u8 (((0x5c : UInt8).toNat : Nat) : Int) from rfl]
  refine (behind_any k 0x5c _ d _ _ hkl.out (hrd.ch hHeld (fun b hb => by rw [hb]; exact n46)) (by rw [hdl.out]; omega)).mono ?_
  rintro e' w8 ⟨v8, rfl, ho8, hB8⟩
  have hr8 := Rd.of_own ho8
  have hz8 := hz7.drew.below hB8
  have hBd := hB7.drew.trans (hB8.mono hB7.size)
  refine hK.out _ _ (hHeld.belowG hB8) (fun hHeld => ?_)
  clear hK K
  try simp only [Act.put, List.setIfInBounds_toArray, List.set_cons_zero, List.set_cons_succ]
  refine wpAnyH_ready (rs := [3]) (by kernel_rfl) (by simp) ?_
  refine AllReadyH.cons (o := ⟨some 16, _, _, _, _, none⟩) rfl (fun K hK => ?_) AllReadyH.nil
  go_simp
  refine (sum_any _ (xorB 0x5c k ++ d) _ _ (hK0.below hBd) hr8 (by rw [List.length_append, len_xorB, hkl.out, hdl.out]; omega)).mono ?_
  rintro e' w9 ⟨rfl, hB9⟩
  have hz9 := hz8.below hB9
  have hBe := hBd.trans (hB9.mono hBd.size)
  obtain ⟨r, hr⟩ : ∃ r, r = shaF (xorB 0x5c k ++ d) := ⟨_, rfl⟩
  rw [← hr]
  have hrl : Hid (r.length = 32) := by show _ = _; rw [hr]; exact len_sha _
  have Hr := hid hr
  clear hr
  refine hK.out _ _ (hHeld.belowG hB9) (fun hHeld => ?_)
  clear hK K
  try simp only [Act.put, List.setIfInBounds_toArray, List.set_cons_zero, List.set_cons_succ]
  refine wpAnyH_ready (rs := [4]) (by kernel_rfl) (by simp) ?_
  refine AllReadyH.cons (o := ⟨none, .store 41 (.tmp 4) (.tmp 16), _, _, _, none⟩) rfl (fun K hK => ?_) AllReadyH.nil
  refine step_st 41 (.tmp 4) (.tmp 16) (by rfl) (by rfl) (by rfl) (f := 0) (by rfl) (l := bvs r) (by rfl) hz9 (by simp [zs8, len_bvs, hrl.out]) (by rw [len_bvs, hrl.out]; exact size25) (oneCell_bvs _) ?_
  intro w10 hb10 hG10
  refine hK.out _ _ (hHeld.grow hG10 (fun k hk => .inl (by injection hk with hk; exact hk.symm))) (fun hHeld => ?_)
  clear hK K
  try simp only [Act.put, List.setIfInBounds_toArray, List.set_cons_zero, List.set_cons_succ]
  refine wpAnyH_done (by kernel_rfl) ?_ _
  refine NoPanic.normal ?_
  rw [set25 _ hrl.out] at hb10
  go_wp2
  refine ret_cell rfl rfl hb10.whole und25 rfl (by rw [len_bvs, hrl.out]; exact size25) rfl ?_
  refine ⟨?_, hBe.grown hG10 hBe.size (by intro k hk; injection hk with hk; omega)⟩
  unfold tagF
  rw [← Hk.out, ← Hd.out, ← Hr.out]


theorem eqH (p q : List UInt8) (hp : p.length = 32) (hq : q.length = 32) : ∀ W : World, (Op.equalIn 10000 41 (.agg (bvs p).toArray) (.agg (bvs q).toArray)).run Tryd.prog W = .ok (p == q) W := fun W =>
  run_equalIn_bytes (P := Tryd.prog) W 9998 41 5 32 und25 Tryd.underlying5 Tryd.sizeOf5 p q hp hq
end Go.Proofs.YtmjpkdehkdpdpaaDoor
/- T4: layer 3: contract of Vector. -/
namespace Go.V
open Go.RowKit
theorem flat_at (z : List Value) (hz : 0 < z.length) : ∀ (n j : Nat), ((List.replicate n z).flatten)[j]? = if j < n * z.length then z[j % z.length]? else none
  | 0, j => by simp
  | n + 1, j => by
    rw [List.replicate_succ, List.flatten_cons]
    by_cases h : j < z.length
    · rw [List.getElem?_append_left h, Nat.mod_eq_of_lt h, if_pos (by rw [Nat.succ_mul]; omega)]
    · rw [List.getElem?_append_right (by omega), flat_at z hz n, show j % z.length = (j - z.length) % z.length from (Nat.mod_eq_sub_mod (by omega))]
      congr 1
      rw [Nat.succ_mul]
      exact propext ⟨fun h => by omega, fun h => by omega⟩
theorem madeCells_flat (z : List Value) (hz : 0 < z.length) : ∀ n : Nat, (madeCells z.toArray (n * z.length)).toList = (List.replicate n z).flatten := by
  intro n
  apply List.ext_getElem?
  intro j
  rw [flat_at z hz n j]
  unfold madeCells
  by_cases hj : j < n * z.length
  · rw [if_pos hj]
    simp [hj, List.getElem?_eq_getElem (Nat.mod_lt j hz)]
  · rw [if_neg hj]
    simp [hj]
theorem run_mkA {P : Program} {t e : TypeId} {z : List Value} (hs : P.underlying t = some (.slice e)) (hi : (P.info? e).map (fun i => (i.zero, i.size, i.bytes)) = some (some (.agg z.toArray), z.length, z.length)) (hz : 0 < z.length) (n : Nat) (hb : z.length * n ≤ 281474976710656) (hm : n ≤ maxLen) (W : World) :
    (Instr.makeSlice t (.int .i64 (n : Int)) (.int .i64 (n : Int))).run P W = .ok (.slice (some ⟨W.heap.size, 0, none⟩) n n) (W.alloc (.cells (List.replicate n z).flatten.toArray e)) := by
  obtain ⟨i, hi1, h2, h3, h4⟩ := info_parts hi
  have h63 : (n : Int) ≤ 9223372036854775807 := by simp [maxLen] at hm; omega
  have hb' : (i.bytes : Int) * (n : Int) ≤ 281474976710656 := by
    have : ((i.bytes * n : Nat) : Int) ≤ 281474976710656 := by rw [h4]; omega
    rwa [Int.natCast_mul] at this
  have hr := run_make (P := P) W t e i (.agg z.toArray) hs hi1 h2 .i64 .i64 n n (by omega) (Int.le_refl _) hb' h63
  rw [hr]
  simp only [Int.toNat_natCast, h3]
  congr 3
  apply Array.ext'
  rw [show (Value.agg z.toArray).cells = z.toArray from rfl, madeCells_flat z hz]
theorem wp_mkA {P : Program} {w : World} {ops : Array Oper} {rest : List Oper} {o : Oper} {a : Act} {Q : Exit → Act → World → Prop} {t e : TypeId} {z : List Value} (hs : P.underlying t = some (.slice e)) (hi : (P.info? e).map (fun i => (i.zero, i.size, i.bytes)) = some (some (.agg z.toArray), z.length, z.length)) (hz : 0 < z.length) (x y : Operand) (hgd : o.guard = none) (ho : o.op = .makeSlice t x y) (n : Nat)
    (hx : a.eval x = .int .i64 (n : Int)) (hy : a.eval y = .int .i64 (n : Int)) (hb : z.length * n ≤ 281474976710656) (hm : n ≤ maxLen) (l : List Value) (hl : l = (List.replicate n z).flatten)
    (h : wpList P ops Q rest (a.put o.dst (.slice (some ⟨w.heap.size, 0, none⟩) n n)) (w.alloc (.cells l.toArray e))) : wpList P ops Q (o :: rest) a w := by
  refine wpList_plain hgd fun K hK => ?_
  subst hl
  unfold Oper.wp execOp
  simp only [ho, hx, hy, Sem.run_bind, Sem.run_pure, run_mkA hs hi hz n hb hm, Result.andThen_ok]
  exact hK _ _ h
end Go.V
namespace Go.Proofs.YtmjpkdehkdpdpaaDoor
open Go.RowKit Go.V
/-- the first i tags, the rest noughts -/
def vecC (keys : List (List UInt8)) (text : List UInt8) (n i : Nat) : List Value := bvs ((keys.take i).map fun k => tagF k text).flatten ++ zs8 (32 * (n - i))
theorem flatten_len32 (l : List (List UInt8)) (h : ∀ x ∈ l, x.length = 32) : l.flatten.length = 32 * l.length := by
  induction l with
  | nil => rfl
  | cons x l ih =>
    rw [List.flatten_cons, List.length_append, h x (by simp), ih (fun y hy => h y (by simp [hy])), List.length_cons]
    omega
theorem vecF_len (keys : List (List UInt8)) (text : List UInt8) (i : Nat) (hi : i ≤ keys.length) : (((keys.take i).map fun k => tagF k text).flatten).length = 32 * i := by
  rw [flatten_len32 _ (by intro x hx; obtain ⟨k, _, rfl⟩ := List.mem_map.1 hx; exact len_tag _ _)]
  simp; omega
theorem vecC_len (keys : List (List UInt8)) (text : List UInt8) (n i : Nat) (hi : i ≤ n) (hn : n ≤ keys.length) : (vecC keys text n i).length = 32 * n := by
  rw [vecC, List.length_append, len_bvs, vecF_len _ _ _ (by omega)]
  simp [zs8]; omega
theorem vecC_set (keys : List (List UInt8)) (text : List UInt8) (n i : Nat) (hi : i < n) (k : List UInt8) (hk : keys[i]? = some k) :
    (vecC keys text n i).take (i * 32) ++ bvs (tagF k text) ++ (vecC keys text n i).drop (i * 32 + (bvs (tagF k text)).length) = vecC keys text n (i + 1) := by
  obtain ⟨hlt, he⟩ := List.getElem?_eq_some_iff.1 hk
  have hl : (bvs ((keys.take i).map fun k => tagF k text).flatten).length = i * 32 := by rw [len_bvs, vecF_len _ _ _ (by omega)]; omega
  have e1 : bvs ((keys.take (i + 1)).map fun k => tagF k text).flatten = bvs ((keys.take i).map fun k => tagF k text).flatten ++ bvs (tagF k text) := by
    rw [List.take_succ_eq_append_getElem hlt, he]
    simp [bvs]
  unfold vecC
  rw [e1, len_bvs, len_tag, List.take_append_of_le_length (by omega), List.take_of_length_le (by omega), List.drop_append, List.drop_of_length_le (by omega), List.nil_append, hl, show i * 32 + 32 - i * 32 = 32 from by omega]
  congr 1
  unfold zs8
  rw [List.drop_replicate]
  congr 1
  omega
theorem zs_flat : ∀ n : Nat, zs8 (32 * n) = (List.replicate n (zs8 32)).flatten
  | 0 => rfl
  | n + 1 => by
    rw [List.replicate_succ, List.flatten_cons, ← zs_flat n]
    unfold zs8
    rw [List.replicate_append_replicate]
    congr 1
    omega
end Go.Proofs.YtmjpkdehkdpdpaaDoor
/- T5: layer 3: contracts of the document's Tag and Derive. -/
namespace Go.V
open Go.RowKit
theorem xorB_snoc (m : UInt8) (k : List UInt8) (i : Nat) (x : UInt8) (h : k[i]? = some x) : bvs (xorB m (k.take i)) ++ [.int .u8 (bits BinOp.xor IntKind.u8 (x.toNat : Int) (m.toNat : Int))] = bvs (xorB m (k.take (i + 1))) := by
  obtain ⟨hi, he⟩ := List.getElem?_eq_some_iff.1 h
  rw [xor8_out, List.take_succ_eq_append_getElem hi, he]
  simp [bvs, xorB, byteV]
/-- rows of two variables in blocks apart -/
def Apt (a b : Value) : Prop := ∀ k, a.ownBlock = some k → b.ownBlock ≠ some k
theorem Apt.symm {a b : Value} (h : Apt a b) : Apt b a := fun k hk hb => h k hb hk
theorem apt_kept {a b : Value} (h : Apt a b) : b.ownBlock = none ∨ b.ownBlock ≠ a.ownBlock := by
  cases hb : b.ownBlock with
  | none => exact .inl rfl
  | some k => exact .inr (fun e => h k e.symm hb)
theorem Apt.step {a b a' : Value} {n : Nat} (h : Apt a b) (hat : a'.ownBlock = a.ownBlock ∨ ∃ g, a'.ownBlock = some g ∧ n ≤ g) (hb : ∀ k, b.ownBlock = some k → k < n) : Apt a' b := by
  intro k hk hkb
  rcases hat with e | ⟨g, e, hg⟩
  · exact h k (e.symm.trans hk) hkb
  · rw [e] at hk
    injection hk with hk
    have := hb k hkb
    omega
theorem app_z (p : List UInt8) (j : Nat) : bvs (p ++ List.replicate j 0) ++ [.int .u8 0] = bvs (p ++ List.replicate (j + 1) 0) := by
  simp [bvs, List.replicate_succ', byteV]
end Go.V
namespace Go.Proofs.YtmjpkdehkdpdpaaDoor
open Go.RowKit Go.V
set_option maxRecDepth 100000 in
set_option maxHeartbeats 2000000 in
theorem rtag_any (kv tv : Value) (key text : List UInt8) (F G : Nat → Prop) (w : World) (hk : Rd w F kv (bys key)) (ht : Rd w G tv (bys text)) (hn : key.length ≤ 17592186044416) (hm : text.length ≤ 17000000000000) :
    Calls Tryd.prog 70 #[kv, tv] w fun e w' => e = .returned (.agg (bvs (tagF key text)).toArray) ∧ Below w.heap.size w w' := by
  obtain ⟨A, c, rfl⟩ := hk.shape
  obtain ⟨A2, c2, rfl⟩ := ht.shape
  have hz := Blk.new' w 41 (zs8 32)
  have hB := (Below.refl w.heap.size w).alloc (Nat.le_refl _) (.cells (zs8 32).toArray 41)
  have hk1 := hk.below hB
  have ht1 := (ht.weak (F' := fun b => b < w.heap.size) (fun b hb _ => hb)).below hB
  have hs0 : w.heap.size < (w.alloc (.cells (zs8 32).toArray 41)).heap.size := by simp
  obtain ⟨w0, hw0⟩ : ∃ w0, w0 = w.alloc (.cells (zs8 32).toArray 41) := ⟨_, rfl⟩
  obtain ⟨p, hp⟩ : ∃ p, p = if 64 < key.length then shaF key else key := ⟨_, rfl⟩
  have hpl := key_le key p hp
  have hkf := keyF_of key p hp
  have Hp := hid hp
  have Hkf := hid hkf
  clear hp hkf
  rw [← hw0] at hz hB hk1 ht1 hs0
  have H0 := hid hw0
  clear hw0
  have hnil : w0.ownsRow (w.heap.size + 1) 5 1 (.slice none 0 0) 0 [] := World.ownsRow_nil _ _ _ _
  have ht6 := ht1
  go_enter Tryd.func70, Tryd.ntmps70
  go_upto_if 11 with (refine wp_new 41 rfl rfl zero25 ?_; rw [← H0.out]; refine wp_stop ?_; refine wp_go ?_)
  go_cut [5] (fun s5 wx => wx.ownsRow (w.heap.size + 1) 5 1 s5 p.length (bvs p) ∧ Below w0.heap.size w0 wx)
  case first =>
    by_cases h6 : 64 < key.length
    · have Hpe : Hid (p = shaF key) := by show _ = _; rw [Hp.out, if_pos h6]
      have hpl2 : Hid (p.length = 32) := by show _ = _; rw [Hpe.out]; exact len_sha key
      go_wp2_with (fail)
      refine (rsum_any _ key _ _ hk1 (by omega)).mono ?_
      rintro e w1 ⟨rfl, hB1⟩
      rw [← Hpe.out]
      go_wp2_with (fail)
      refine (rbytes_any p _ hpl2.out).mono ?_
      rintro e w2 ⟨v2, rfl, hn2⟩
      have hB2 := hB1.trans (hn2.2.mono hB1.size)
      have hs2 := hB2.size
      obtain ⟨Av, cv, rfl⟩ := hn2.rd.shape
      have hnil2 : w2.ownsRow (w.heap.size + 1) 5 1 (.slice none 0 0) 0 [] := World.ownsRow_nil _ _ _ _
      go_wp2_with (refine wp_app (.tmp 12) (.tmp 15) slB rfl rfl rfl hnil2 rfl hn2.rd.src (oneCell_bvs p) (by simp only [maxLen]; omega) (by omega) (by omega) ?_; intro v3 w3 ho3 hG3 _)
      go_wp2
      go_meet
      rw [List.nil_append, Nat.zero_add] at ho3
      exact ⟨ho3, hB2.grown hG3 hB2.size (fun k hk => by cases hk)⟩
    · have Hpe : Hid (p = key) := by show _ = _; rw [Hp.out, if_neg h6]
      go_wp2_with (refine wp_app (.tmp 17) (.tmp 18) slB rfl rfl rfl hnil rfl hk1.src (oneCell_bvs key) (by simp only [maxLen]; omega) (by omega) (by omega) ?_; intro v3 w3 ho3 hG3 _)
      go_wp2
      go_meet
      rw [List.nil_append, Nat.zero_add] at ho3
      rw [Hpe.out]
      exact ⟨ho3, (Below.refl _ _).grown hG3 (Nat.le_refl _) (fun k hk => by cases hk)⟩
  case rest =>
    obtain ⟨ho, hB1⟩ := hcut
    have hBw : Below w.heap.size w wc := hB.trans (hB1.mono hB.size)
    have hz1 := hz.below hB1
    have ht2 := ht1.below hB1
    have hs1 := hB1.size
    clear hk1 ht1 H0 hnil hz hB ht6 hk ht hB1
    go_wp2_with (fail)
    go_loopw [5] (fun kv wr => ∃ j : Nat, p.length + j ≤ 64 ∧ wr.ownsRow (w.heap.size + 1) 5 1 kv (p.length + j) (bvs (p ++ List.replicate j 0)) ∧ Blk wr w.heap.size 41 (zs8 32) ∧ Rd wr (fun b => b < w.heap.size) (.slice A2 text.length c2) (bys text) ∧ Below w.heap.size w wr ∧ w.heap.size < wr.heap.size) (fun kv _ => 64 - lenV kv)
    case atStart => exact ⟨0, by omega, by simpa using ho, hz1, ht2, hBw, by omega⟩
    case round =>
      obtain ⟨j, hj, ho, hz, ht, hB, hs⟩ := hrel
      obtain ⟨M, hM⟩ : ∃ M, M = p.length + j := ⟨_, rfl⟩
      rw [← hM] at ho hj
      obtain ⟨Ak, ck, rfl⟩ := own_shape ho
      have HM := hid hM
      by_cases hlt : M < 64
      · have hsn := hid (app_z p j)
        clear hM
        go_wp2_with (refine wp_push (.tmp 23) (.const (.int .u8 0)) 24 slB rfl rfl rfl rfl rfl (u := .int .u8 0) rfl rfl rfl (by simp) rfl ho (by simp only [maxLen]; omega) (by omega) (by omega) ?_; intro v3 w3 ho3 hG3 _)
        rw [hsn.out] at ho3
        go_wp2
        obtain ⟨A3, c3, rfl⟩ := own_shape ho3
        have hz3 := hz.keep (hG3.block _ hz.lt (fun e => by have := (ho.lt _ e.symm).1; omega))
        have ht3 := ht.keep (F' := fun b => b < w.heap.size) (fun b hb hf => ⟨hf, hG3.block b hb (fun e => by have := (ho.lt _ e.symm).1; omega)⟩)
        have hB3 := hB.grown hG3 hB.size (fun k hk => by have := (ho.lt k hk).1; omega)
        have hs3 := hG3.size
        rw [show M + 1 = p.length + (j + 1) from by rw [HM.out]; omega] at ho3 ⊢
        exact ⟨⟨j + 1, by have := HM.out; omega, ho3, hz3, ht3, hB3, by omega⟩, by have := HM.out; simp [lenV]; omega⟩
      · have h64 : M = 64 := by omega
        have hkb : p ++ List.replicate j 0 = keyF key := by rw [Hkf.out]; congr 2; omega
        subst h64
        rw [hkb] at ho
        obtain ⟨k, hkk⟩ : ∃ k, k = keyF key := ⟨_, rfl⟩
        have hkl : Hid (k.length = 64) := by show _ = _; rw [hkk]; exact len_key key
        have Hk := hid hkk
        rw [← hkk] at ho
        have hkr := (Rd.of_own ho).weak (F' := fun b => w.heap.size < b ∧ b < wr.heap.size) (fun b hb hf => ⟨by have : w.heap.size + 1 ≤ b := hf; omega, hb⟩)
        clear hkk hkb hM ho
        have hin := World.ownsRow_nil wr wr.heap.size 5 1
        go_wp2_with (fail)
        go_loopw [6, 7, 8] (fun iv ov nv W => ∃ i : Nat, i ≤ 64 ∧ nv = .int .i64 i ∧ W.ownsRow wr.heap.size 5 1 iv i (bvs (xorB 0x36 (k.take i))) ∧ W.ownsRow wr.heap.size 5 1 ov i (bvs (xorB 0x5c (k.take i))) ∧ Apt iv ov ∧ Below wr.heap.size wr W) (fun _ _ nv _ => 64 - (intOf nv).toNat)
        case atStart => exact ⟨0, by omega, rfl, hin, hin, (fun b h => by cases h), Below.refl _ _⟩
        case round =>
          obtain ⟨i, hi, rfl, hoi, hoo, hap, hB2⟩ := hrel
          by_cases hil : i < 64
          · obtain ⟨x, hx⟩ : ∃ x, k[i]? = some x := ⟨_, List.getElem?_eq_getElem (by rw [hkl.out]; exact hil)⟩
            have hs1 : Hid (bvs (xorB 0x36 (k.take i)) ++ [.int .u8 (bits BinOp.xor IntKind.u8 (x.toNat : Int) 54)] = bvs (xorB 0x36 (k.take (i + 1)))) := xorB_snoc 0x36 k i x hx
            have hs2 : Hid (bvs (xorB 0x5c (k.take i)) ++ [.int .u8 (bits BinOp.xor IntKind.u8 (x.toNat : Int) 92)] = bvs (xorB 0x5c (k.take (i + 1)))) := xorB_snoc 0x5c k i x hx
            have hkW := hkr.below hB2
            obtain ⟨gk, ok, rfl, hgk, hck⟩ := hkW.byteAt i (by rw [hkl.out]; exact hil)
            rw [show k[i]'(by rw [hkl.out]; exact hil) = x from (List.getElem?_eq_some_iff.1 hx).2] at hck
            have hx2 : Hid (k[i]'(by rw [hkl.out]; exact hil) = x) := (List.getElem?_eq_some_iff.1 hx).2
            clear hx
            have hbs := hB2.size
            go_wp2_with (refine wp_push (.tmp 30) (.tmp 35) 36 slB rfl rfl rfl rfl rfl (u := .int .u8 (bits BinOp.xor IntKind.u8 (x.toNat : Int) 54)) rfl rfl rfl (by simp) rfl hoi (by simp only [maxLen]; omega) (by omega) (by omega) ?_; intro v3 W3 ho3 hG3 hat3; refine wp_stop ?_)
            rw [hs1.out] at ho3
            have hB3 := hB2.grown hG3 hbs (fun k hk => (hoi.lt k hk).1)
            have hoo3 := hoo.kept hG3 (apt_kept hap)
            have hap3 := hap.step hat3 (fun b hb => (hoo.lt b hb).2)
            have hkW := hkr.below hB3
            obtain ⟨gk', ok', he, hgk', hck'⟩ := hkW.byteAt i (by rw [hkl.out]; exact hil)
            injection he with he
            injection he with he1 he2
            subst he1 he2
            rw [hx2.out] at hck'
            have hbs3 := hB3.size
            clear hkW hgk hgk' hck
            refine wp_go ?_
            go_wp2_with (refine wp_push (.tmp 38) (.tmp 43) 44 slB rfl rfl rfl rfl rfl (u := .int .u8 (bits BinOp.xor IntKind.u8 (x.toNat : Int) 92)) rfl rfl rfl (by simp) rfl hoo3 (by simp only [maxLen]; omega) (by omega) (by omega) ?_; intro v4 W4 ho4 hG4 hat4; refine wp_stop ?_)
            rw [hs2.out] at ho4
            have hB4 := hB3.grown hG4 hbs3 (fun k hk => (hoo3.lt k hk).1)
            have hoi4 := ho3.kept hG4 (apt_kept hap3.symm)
            have hap4 : Apt v4 v3 := hap3.symm.step hat4 (fun b hb => (ho3.lt b hb).2)
            refine wp_go ?_
            go_wp2
            exact ⟨⟨i + 1, by omega, by go_num, hoi4, ho4, hap4.symm, hB4⟩, by simp [intOf]; omega⟩
          · have h64 : i = 64 := by omega
            subst h64
            rw [List.take_of_length_le (by rw [hkl.out]; exact Nat.le_refl _)] at hoi hoo
            have htW := ht.below hB2
            have hzW := hz.below hB2
            have hbs := hB2.size
            have hBW := hB.trans (hB2.mono hB.size)
            obtain ⟨i1, hi1⟩ : ∃ i1, i1 = xorB 0x36 k := ⟨_, rfl⟩
            obtain ⟨i2, hi2⟩ : ∃ i2, i2 = xorB 0x5c k := ⟨_, rfl⟩
            have hl1 : Hid (i1.length = 64) := by show _ = _; rw [hi1, len_xorB, hkl.out]
            have hl2 : Hid (i2.length = 64) := by show _ = _; rw [hi2, len_xorB, hkl.out]
            rw [← hi1] at hoi
            rw [← hi2] at hoo
            have Hi1 := hid hi1
            have Hi2 := hid hi2
            clear hi1 hi2 hkr ht hz hB2
            go_wp2_with (refine wp_app (.tmp 46) (.tmp 47) slB rfl rfl rfl hoi rfl htW.src (oneCell_bvs text) (by simp only [maxLen]; omega) (by omega) (by omega) ?_; intro v3 W3 ho3 hG3 hat3; refine wp_stop ?_)
            have hB3 := hBW.grown hG3 hBW.size (fun k hk => by have := (hoi.lt k hk).1; omega)
            have hoo3 := hoo.kept hG3 (apt_kept hap)
            have hz3 := hzW.keep (hG3.block _ hzW.lt (fun e => by have := (hoi.lt _ e.symm).1; omega))
            rw [show bvs i1 ++ bvs text = bvs (i1 ++ text) from by simp [bvs]] at ho3
            have hin3 := Rd.of_own ho3
            obtain ⟨A3, c3, rfl⟩ := own_shape ho3
            clear hap ho3 hoi hoo
            have hbs3 := hB3.size
            have hbs3' := hG3.size
            refine wp_go ?_
            go_wp2_with (fail)
            refine (rsum_any _ (i1 ++ text) _ _ hin3 (by rw [List.length_append, hl1.out]; omega)).mono ?_
            rintro e w5 ⟨rfl, hB5⟩
            obtain ⟨d, hd⟩ : ∃ d, d = shaF (i1 ++ text) := ⟨_, rfl⟩
            rw [← hd]
            have hdl : Hid (d.length = 32) := by show _ = _; rw [hd]; exact len_sha _
            have Hd := hid hd
            clear hd
            go_wp2_with (fail)
            refine (rbytes_any d _ hdl.out).mono ?_
            rintro e w6 ⟨v6, rfl, hn6⟩
            have hB6 := hB5.trans (hn6.2.mono hB5.size)
            have hB6' := hB3.trans (hB6.mono hB3.size)
            have hoo6 := own_keepB hoo3 hB6
            have hz6 := hz3.below hB6
            have hsrc := hn6.rd
            obtain ⟨A6, c6, rfl⟩ := hn6.rd.shape
            have hsrc := hsrc.src
            have hbs6 := hB6.size
            have hdl2 := hdl.out
            obtain ⟨D, hD⟩ : ∃ D, D = d.length := ⟨_, rfl⟩
            rw [← hD] at hsrc hdl2 ⊢
            have HD := hid hD
            subst hdl2
            clear hD
            go_wp2_with (refine wp_app (.tmp 49) (.tmp 52) slB rfl rfl rfl hoo6 rfl hsrc (oneCell_bvs d) (by simp [maxLen]) (by omega) (by omega) ?_; intro v7 W7 ho7 hG7 hat7; refine wp_stop ?_)
            have hB7 := hB6'.grown hG7 hB6'.size (fun k hk => by have := (hoo6.lt k hk).1; omega)
            have hz7 := hz6.keep (hG7.block _ hz6.lt (fun e => by have := (hoo6.lt _ e.symm).1; omega))
            rw [show bvs i2 ++ bvs d = bvs (i2 ++ d) from by simp [bvs]] at ho7
            have hin7 := Rd.of_own ho7
            obtain ⟨A7, c7, rfl⟩ := own_shape ho7
            refine wp_go ?_
            go_wp2_with (fail)
            refine (rsum_any _ (i2 ++ d) _ _ hin7 (by rw [List.length_append, hl2.out, ← HD.out]; omega)).mono ?_
            rintro e w8 ⟨rfl, hB8⟩
            obtain ⟨r, hr⟩ : ∃ r, r = shaF (i2 ++ d) := ⟨_, rfl⟩
            rw [← hr]
            have hrl : Hid (r.length = 32) := by show _ = _; rw [hr]; exact len_sha _
            have Hr := hid hr
            clear hr
            have hz8 := hz7.below hB8
            have hB8' := hB7.trans (hB8.mono hB7.size)
            go_wp2_with (refine wp_st 41 (.tmp 4) (.tmp 55) rfl rfl rfl (f := 0) rfl (l := bvs r) rfl hz8 (by simp [zs8, len_bvs, hrl.out]) (by rw [len_bvs, hrl.out]; exact size25) (oneCell_bvs _) ?_; intro w10 hb10 hG10)
            rw [set25 _ hrl.out] at hb10
            refine ret_cell rfl rfl hb10.whole und25 rfl (by rw [len_bvs, hrl.out]; exact size25) rfl ?_
            refine ⟨?_, hB8'.grown hG10 hB8'.size (by intro k hk; injection hk with hk; omega)⟩
            unfold tagF
            rw [← Hk.out, ← Hi1.out, ← Hi2.out, ← Hd.out, ← Hr.out]
end Go.Proofs.YtmjpkdehkdpdpaaDoor
